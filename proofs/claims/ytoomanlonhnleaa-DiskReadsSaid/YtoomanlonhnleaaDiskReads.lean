/- Proved: demesnelaw09.DiskReads answers true for every slice of acts, file, text and number, and leaves them as they were. No condition. -/
import Derived.Test.YtoomanlonhnleaaDLaws
import Derived.Test.YtoomanlonhnleaaDRun
namespace Go.Proofs.Ytoomanlonhnleaa.diskReads
open Go.ChangeShapes Go.WideShapes Go.ChangeAt Go.RowKit
open Go.Proofs.Ytoomanlonhnleaa.Disk

/-- The first bytes, as the law cuts them: the limits on the way. -/
theorem clip_runs (al : ByteArray) (n : Int) : ∃ m1 m2 : Int, ((n < 0 ∧ m1 = 0) ∨ (0 ≤ n ∧ m1 = n)) ∧ ((m1 ≤ al.size ∧ m2 = m1) ∨ ((al.size : Int) ≤ m1 ∧ m2 = al.size)) ∧ 0 ≤ m2 ∧ m2 ≤ al.size ∧ clip n al = al.extract 0 m2.toNat := by
  refine ⟨if n < 0 then 0 else n, ((min n.toNat al.size : Nat) : Int), ?_, ?_, by omega, by omega, by rw [Int.toNat_natCast]; rfl⟩
  · by_cases h : n < 0
    · rw [if_pos h]; exact .inl ⟨h, rfl⟩
    · rw [if_neg h]; exact .inr ⟨by omega, rfl⟩
  · by_cases h : n < 0
    · rw [if_pos h]; exact .inl ⟨by omega, by omega⟩
    · rw [if_neg h]
      by_cases k : n ≤ al.size
      · exact .inl ⟨k, by omega⟩
      · exact .inr ⟨by omega, by omega⟩
/-- What the law asks of a disk that is not down and has no fuse. -/
structure Asks (D : Dk) (F n : Int) (s al : ByteArray) (o : ByteArray) (W Y C : Dk) (z : ByteArray) : Prop where
  w : write D F s = (W, 0)
  y : sync W F = (Y, 0)
  c : cut W F n = (C, 0)
  rw : read W F = al
  ry : read Y F = al
  rc : read C F = z
  ow : read W (1 - F) = o
  oc : read C (1 - F) = o
  rx : read (crash Y 0) F = al
theorem asks {D : Dk} {F : Int} (hF : F = 0 ∨ F = 1) (n : Int) (s : ByteArray) (hd : D.down = false) (hf : D.fuse < 0) (hr : ¬ D.size < used D + s.size) :
    ∃ W Y C, Asks D F n s (read D F ++ s) (read D (1 - F)) W Y C (clip n (read D F ++ s)) := by
  have hw := write_plain hF s hd hf
  rw [if_neg hr] at hw
  have p1 := put_rest D F ((get D F).more s)
  have hd1 : (put D F ((get D F).more s)).down = false := p1.1.trans hd
  have hf1 : (put D F ((get D F).more s)).fuse < 0 := by rw [p1.2.1]; exact hf
  have hy := sync_plain hF hd1 hf1
  have hc := cut_plain hF n hd1 hf1
  have hall : ((get D F).more s).all = read D F ++ s := by rw [more_all, read_get D hF]
  have ho : (1 - F = 0 ∨ 1 - F = 1) := by omega
  have hne : F ≠ 1 - F := by omega
  refine ⟨_, _, _, hw, hy, hc, ?_, ?_, ?_, ?_, ?_, ?_⟩
  · rw [read_put hF, hall]
  · rw [read_put hF, firm_all, get_put, hall]
  · rw [read_put hF, head_all, get_put, hall]
  · rw [read_get _ ho, get_other D _ hF ho hne, ← read_get D ho]
  · rw [read_get _ ho, get_other _ _ hF ho hne, get_other D _ hF ho hne, ← read_get D ho]
  · rw [read_crash hF, get_put, lose_firm, get_put, hall]
theorem used_sync (d : Dk) (f : Int) : used (sync d f).1 ≤ used d := by
  unfold sync
  split
  · exact room_burnt (room_put (Nat.le_of_eq (firm_size _))) (Nat.le_refl _)
  · exact Nat.le_refl _
theorem used_cut (d : Dk) (f n : Int) : used (cut d f n).1 ≤ used d := by
  unfold cut
  split
  · exact room_burnt (room_put (head_size _ _)) (Nat.le_refl _)
  · exact Nat.le_refl _
theorem used_write (d : Dk) (f : Int) (s : ByteArray) : used (write d f s).1 ≤ used d + s.size := by
  unfold write
  split
  · split
    · exact Nat.le_add_right _ _
    · exact room_burnt (Nat.le_of_eq (room_more _ _ _)) (Nat.le_of_eq (room_more _ _ _))
  · exact Nat.le_add_right _ _
theorem put_laid {w W : World} {n : Nat} {d : Dk} {a b : ByteArray} (h : Laid w W n d a b) (hn : w.heap.size ≤ n) (x : Dk) : Laid w (W.setRow n (cellsD x)) n x a b :=
  ⟨setRow_heap W _ _ _ _ _ h.d, (setRow_other W _ _ _ (by omega)).trans h.s, Whole.row_below h.b hn _⟩
/-- All that the law calls, and what comes of it. -/
theorem all_calls {D : Dk} {a b : ByteArray} (hO : Ok 100000 D a b) (hd : D.down = false) (hf : D.fuse = -1) {F : Int} (hF : F = 0 ∨ F = 1) (s : ByteArray) (hs : s.size ≤ 140737488355328) (n : Int) (hn1 : n ≤ 9223372036854775807) :
    ∃ (Wd Y C X : Dk) (e g h : Int) (old o rW rY rC oW oC rX : ByteArray) (u : Nat),
    (∀ w, Calls Try.prog 24 #[.agg (cellsD D), .int .i64 F] w fun e w' => e = .returned (.string old) ∧ Below w.heap.size w w') ∧
    (∀ w, Calls Try.prog 10 #[.agg (cellsD D), .int .i64 F, .string s] w fun r w' => r = .returned (.tuple #[.agg (cellsD Wd), .int .i64 e]) ∧ Below w.heap.size w w') ∧
    (∀ w, Calls Try.prog 12 #[.agg (cellsD Wd), .int .i64 F] w fun r w' => r = .returned (.tuple #[.agg (cellsD Y), .int .i64 g]) ∧ Below w.heap.size w w') ∧
    (∀ w, Calls Try.prog 14 #[.agg (cellsD Wd), .int .i64 F, .int .i64 n] w fun r w' => r = .returned (.tuple #[.agg (cellsD C), .int .i64 h]) ∧ Below w.heap.size w w') ∧
    (∀ w, Calls Try.prog 22 #[.agg (cellsD D)] w fun e w' => e = .returned (.int .i64 u) ∧ Below w.heap.size w w') ∧
    (∀ w, Calls Try.prog 24 #[.agg (cellsD Wd), .int .i64 F] w fun e w' => e = .returned (.string rW) ∧ Below w.heap.size w w') ∧
    (∀ w, Calls Try.prog 24 #[.agg (cellsD Y), .int .i64 F] w fun e w' => e = .returned (.string rY) ∧ Below w.heap.size w w') ∧
    (∀ w, Calls Try.prog 24 #[.agg (cellsD C), .int .i64 F] w fun e w' => e = .returned (.string rC) ∧ Below w.heap.size w w') ∧
    (∀ w, Calls Try.prog 24 #[.agg (cellsD Wd), .int .i64 (1 - F)] w fun e w' => e = .returned (.string oW) ∧ Below w.heap.size w w') ∧
    (∀ w, Calls Try.prog 24 #[.agg (cellsD D), .int .i64 (1 - F)] w fun e w' => e = .returned (.string o) ∧ Below w.heap.size w w') ∧
    (∀ w, Calls Try.prog 24 #[.agg (cellsD C), .int .i64 (1 - F)] w fun e w' => e = .returned (.string oC) ∧ Below w.heap.size w w') ∧
    (∀ w, Calls Try.prog 16 #[.agg (cellsD Y), .int .i64 0] w fun e w' => e = .returned (.agg (cellsD X)) ∧ Below w.heap.size w w') ∧
    (∀ w, Calls Try.prog 24 #[.agg (cellsD X), .int .i64 F] w fun e w' => e = .returned (.string rX) ∧ Below w.heap.size w w') ∧
    (∀ w, Calls Try.prog 24 #[.agg (cellsD D), .int .i64 2] w fun e w' => e = .returned (.string ⟨#[]⟩) ∧ Below w.heap.size w w') ∧
    (∀ w, Calls Try.prog 24 #[.agg (cellsD D), .int .i64 (-1)] w fun e w' => e = .returned (.string ⟨#[]⟩) ∧ Below w.heap.size w w') ∧
    old.size ≤ 100000 ∧ u ≤ 100000 ∧
    (((100000 : Int) < u + s.size ∧ Wd = D ∧ e = 9) ∨
     (¬ (100000 : Int) < u + s.size ∧ e = 0 ∧ g = 0 ∧ h = 0 ∧ rW = old ++ s ∧ rY = old ++ s ∧ rC = clip n (old ++ s) ∧ oW = o ∧ oC = o ∧ rX = old ++ s)) := by
  have hr := hO.room
  have hsz := hO.size
  have hu : ∀ {d : Dk}, used d ≤ 281474976710656 → d.f0.size + d.f1.size ≤ 4611686018427387904 := fun h => by unfold used at h; omega
  have hu' : ∀ {d : Dk}, used d ≤ 281474976710656 → used d ≤ 4611686018427387904 := fun h => by omega
  have uW : used (write D F s).1 ≤ 281474976710656 := Nat.le_trans (used_write D F s) (by omega)
  have uY := Nat.le_trans (used_sync (write D F s).1 F) uW
  have uC := Nat.le_trans (used_cut (write D F s).1 F n) uW
  have uX := Nat.le_trans (used_crash (sync (write D F s).1 F).1 0) uY
  have uD : used D ≤ 281474976710656 := by omega
  have fW := Fair.write hO.fair F s
  refine ⟨(write D F s).1, (sync (write D F s).1 F).1, (cut (write D F s).1 F n).1, crash (sync (write D F s).1 F).1 0, (write D F s).2, (sync (write D F s).1 F).2, (cut (write D F s).1 F n).2, _, _, _, _, _, _, _, _, _,
    fun w => read_any D (hu uD) F w, fun w => write_any D hO.fair F s (by omega) w, fun w => sync_any _ fW F (hu' uW) w, fun w => cut_any _ fW F n hn1 (hu' uW) w, fun w => used_any D (hu' uD) w,
    fun w => read_any _ (hu uW) F w, fun w => read_any _ (hu uY) F w, fun w => read_any _ (hu uC) F w, fun w => read_any _ (hu uW) (1 - F) w, fun w => read_any D (hu uD) (1 - F) w, fun w => read_any _ (hu uC) (1 - F) w,
    fun w => crash_any _ (hu' uY) 0 w, fun w => read_any _ (hu uX) F w, fun w => read_any D (hu uD) 2 w, fun w => read_any D (hu uD) (-1) w, ?_, hr, ?_⟩
  · rw [read_get D hF, all_size]
    exact Nat.le_trans (get_size D F) hr
  · by_cases hfull : (100000 : Int) < used D + s.size
    · have h := write_plain hF s hd (by omega : D.fuse < 0)
      rw [if_pos (by rw [hsz]; exact hfull)] at h
      exact .inl ⟨hfull, by rw [h], by rw [h]⟩
    · obtain ⟨W, Y, C, k⟩ := asks hF n s hd (by omega : D.fuse < 0) (by rw [hsz]; exact hfull)
      obtain ⟨k1, k2, k3, k4, k5, k6, k7, k8, k9⟩ := k
      rw [k1]
      dsimp only
      rw [k2, k3]
      exact .inr ⟨hfull, rfl, rfl, rfl, k4, k5, k6, k7, k8, k9⟩
set_option maxRecDepth 100000 in
set_option maxHeartbeats 2000000 in
theorem walk0 (HRun : RunSays) (v : Value) (ls : List Ac) (hok : ∀ t ∈ ls, t.ok) (hst : ∀ t ∈ ls, t.2.2.1.size ≤ 1125899906842624) (fi : Int) (hf0 : 0 ≤ fi) (hf1 : fi ≤ 255) (s : ByteArray) (hs : s.size ≤ 140737488355328) (n : Int) (hn1 : n ≤ 9223372036854775807) (w : World) (hv : ARow w v ls) :
    Calls Try.prog 7 #[v, .int .u8 fi, .string s, .int .i64 n] w fun e w' => e = .returned (.bool true) ∧ Below w.heap.size w w' := by
  have HN := Lib.hid (fun w => new_any 100000 w)
  have HR := Lib.hid (fun w (h : ARow w v ls) => HRun 100000 (by decide) ls v hok hst w h)
  have HV := Lib.hid hv
  obtain ⟨D0, hD0⟩ : ∃ D0, new 100000 = D0 := ⟨_, rfl⟩
  have hD0' : new ((100000 : Nat) : Int) = D0 := hD0
  rw [hD0'] at HR
  rw [hD0] at HN
  unfold valD at HN HR
  clear hD0 hD0' hv HRun hok hst
  go_enter Try.func7, Try.ntmps7
  go_wp2_with fail
  refine (examples_any _).mono ?_
  rintro e w1 ⟨rfl, hb1⟩
  go_wp2_with fail
  refine (HN.out _).mono ?_
  rintro e w2 ⟨rfl, hb2⟩
  have hb12 := grows hb1 hb2
  have hv2 := HV.out.below hb12
  go_wp2_with fail
  refine (HR.out _ hv2).mono ?_
  rintro e w3 ⟨d, a, b, hO, rfl, hb3⟩
  have hb := grows hb12 hb3
  have hL := laid_all hb d a b
  have l1 := laid_box w3
  have l2 := laid_pair w3 d
  unfold retR valD
  have hn3w : w.heap.size ≤ w3.heap.size := hb.size
  clear hb1 hb2 hb12 hb3 hb hv2 HV HN HR
  go_upto_region 5 with (first | (refine Whole.store _ rfl rfl _ _ 26 rfl w3.heap.size _ (cellsD d) rfl rfl l1 szD rfl (one_cells d) ?_) | (refine Whole.store _ rfl rfl _ _ 56 rfl (w3.heap.size + 1) _ #[.string a, .string b] rfl rfl l2 szP rfl (one2 a b) ?_))
  obtain ⟨W, hW⟩ : ∃ W, W = (((w3.alloc zeroD).alloc (pair ⟨#[]⟩ ⟨#[]⟩)).setRow w3.heap.size (cellsD d)).setRow (w3.heap.size + 1) #[.string a, .string b] := ⟨_, rfl⟩
  rw [← hW] at hL ⊢
  clear hW l1 l2
  obtain ⟨n3, hn3⟩ : ∃ n, w3.heap.size = n := ⟨_, rfl⟩
  rw [hn3] at hL hn3w ⊢
  clear hn3
  have d5 := Boxes.cell_at (i := 5) hL.d (v := .bool d.down) rfl
  by_cases hdn : d.down = true
  case' pos =>
    rw [hdn] at d5
    have HS := Lib.hid (fun w => start_any d w)
    have hO1 := hO.start
    have hdn1 : (Disk.start d).down = false := rfl
    obtain ⟨D1, hD1⟩ : ∃ D1, Disk.start d = D1 := ⟨_, rfl⟩
    rw [hD1] at HS hO1 hdn1
    unfold valD at HS
    clear hO hD1 hdn
    go_wp2_with (refine Whole.load W rfl _ 26 rfl _ _ _ rfl hL.d Try.underlying26 rfl szD ?_)
    refine (HS.out _).mono ?_
    rintro e w4 ⟨rfl, hb4⟩
    have hL4 := hL.more hb4
    have l4 := hL4.d
    have hL6 := put_laid hL4 hn3w D1
    clear hL4 hL hb4 HS d5
    go_upto_region 7 with (refine Whole.store w4 rfl rfl _ _ 26 rfl n3 _ (cellsD D1) rfl rfl l4 szD rfl (one_cells D1) ?_)
    clear l4
    generalize w4.setRow n3 (cellsD D1) = W6 at hL6 ⊢
  case' neg =>
    rw [Bool.not_eq_true] at hdn
    rw [hdn] at d5
    go_upto_region 7 with fail
    clear d5
    have hdn1 := hdn
    have hO1 := hO
    have hL6 := hL
    clear hdn hO hL
    generalize W = W6 at hL6 ⊢
    generalize d = D1 at hL6 hO1 hdn1 ⊢
  all_goals
    have HAr := Lib.hid (fun w => arm_any D1 (-1) 0 w)
    have hO2 := hO1.arm (f := -1) (k := 0) (by decide) (by decide) (by decide) (by decide)
    have hdn2 : (arm D1 (-1) 0).down = false := hdn1
    have hfu2 : (arm D1 (-1) 0).fuse = -1 := rfl
    obtain ⟨D2, hD2⟩ : ∃ D2, arm D1 (-1) 0 = D2 := ⟨_, rfl⟩
    rw [hD2] at HAr hO2 hdn2 hfu2
    unfold valD at HAr
    clear hD2 hO1 hdn1
    go_wp2_with (refine Whole.load W6 rfl _ 26 rfl _ _ _ rfl hL6.d Try.underlying26 rfl szD ?_)
    refine (HAr.out _).mono ?_
    rintro e w7 ⟨rfl, hb7⟩
    have hL7 := hL6.more hb7
    have l7 := hL7.d
    have hL8 := put_laid hL7 hn3w D2
    clear hL7 hL6 hb7 HAr
    go_upto_region 8 with (refine Whole.store w7 rfl rfl _ _ 26 rfl n3 _ (cellsD D2) rfl rfl l7 szD rfl (one_cells D2) ?_)
    clear l7
    generalize w7.setRow n3 (cellsD D2) = W7 at hL8 ⊢
    have hA7 : All [(n3, box D2)] W7 := (All.nil W7).cons hL8.d
    have hB7 := hL8.b
    clear hL8 hn3w
    go_upto_region 9 with fail
    have hF01 : fi % 2 = 0 ∨ fi % 2 = 1 := by omega
    obtain ⟨F, hF⟩ : ∃ F, fi % 2 = F := ⟨_, rfl⟩
    rw [hF] at hF01 ⊢
    clear hF
    obtain ⟨Wd, Y, C, X, er, g, h, old, o, rW, rY, rC, oW, oC, rX, u, a1, a2, a3, a4, a5, a6, a7, a8, a9, a10, a11, a12, a13, a14, a15, hold, hu, key⟩ := all_calls hO2 hdn2 hfu2 hF01 s hs n hn1
    have HRd := Lib.hid a1
    have HWr := Lib.hid a2
    have HSy := Lib.hid a3
    have HCu := Lib.hid a4
    have HU := Lib.hid a5
    have HrW := Lib.hid a6
    have HrY := Lib.hid a7
    have HrC := Lib.hid a8
    have HoW := Lib.hid a9
    have HoD := Lib.hid a10
    have HoC := Lib.hid a11
    have HCr := Lib.hid a12
    have HrX := Lib.hid a13
    have Hn2 := Lib.hid a14
    have Hn1 := Lib.hid a15
    have HK := Lib.hid key
    clear a1 a2 a3 a4 a5 a6 a7 a8 a9 a10 a11 a12 a13 a14 a15 key hO2 hdn2 hfu2
    have hcat : ¬ 9223372036854775807 < old.size + s.size := by omega
    have hus : (u : Int) + (s.size : Int) ≤ 281474976710656 := by omega
    have hw1 : IntKind.i64.wrap (1 - F) = 1 - F := by rw [IntKind.wrap_i64]; omega
    go_wp2_with (refine Whole.load W7 rfl _ 26 rfl _ _ _ rfl (hA7.get 0 rfl) Try.underlying26 rfl szD ?_)
    refine (HRd.out _).mono ?_
    rintro e w8 ⟨rfl, hb8⟩
    have hA8 := hA7.more hb8
    have hB8 := grows hB7 hb8
    clear hA7 hB7 hb8 HRd
    go_wp2_with (refine Whole.load w8 rfl _ 26 rfl _ _ _ rfl (hA8.get 0 rfl) Try.underlying26 rfl szD ?_)
    refine (HWr.out _).mono ?_
    rintro e w9 ⟨rfl, hb9⟩
    have hA9 := (hA8.more hb9).new (box Wd)
    have hB9 := grows hB8 hb9
    clear hA8 hB8 hb9 HWr
    go_wp2_with (first | (refine store_new w9 rfl rfl _ _ 26 rfl _ (cellsD Wd) rfl rfl szD rfl (one_cells Wd) ?_) | (refine Whole.load _ rfl _ 26 rfl _ _ _ rfl (hA9.get 0 rfl) Try.underlying26 rfl szD ?_))
    refine (HSy.out _).mono ?_
    rintro e w10 ⟨rfl, hb10⟩
    have hA10 := (hA9.more hb10).new (box Y)
    have hB10 := grows1 hB9 hb10
    clear hA9 hB9 hb10 HSy
    go_wp2_with (first | (refine store_new w10 rfl rfl _ _ 26 rfl _ (cellsD Y) rfl rfl szD rfl (one_cells Y) ?_) | (refine Whole.load _ rfl _ 26 rfl _ _ _ rfl (hA10.get 1 rfl) Try.underlying26 rfl szD ?_))
    refine (HCu.out _).mono ?_
    rintro e w11 ⟨rfl, hb11⟩
    have hA11 := (hA10.more hb11).new (box C)
    have hB11 := grows (grows1 hB10 hb11) (Boxes.old w11 (box C))
    clear hA10 hB10 hb11 HCu
    go_upto_region 13 with (refine store_new w11 rfl rfl _ _ 26 rfl _ (cellsD C) rfl rfl szD rfl (one_cells C) ?_)
    obtain ⟨W11, hW11⟩ : ∃ W11, W11 = w11.alloc (box C) := ⟨_, rfl⟩
    rw [← hW11] at hA11 hB11 ⊢
    clear hW11
    go_wp2_with (refine Whole.load W11 rfl _ 26 rfl _ _ _ rfl (hA11.get 3 rfl) Try.underlying26 rfl szD ?_)
    refine (HU.out _).mono ?_
    rintro e w12 ⟨rfl, hb12⟩
    have hA12 := hA11.more hb12
    have hB12 := grows hB11 hb12
    clear hA11 hB11 hb12 HU
    rcases HK.out with ⟨hfull, rfl, rfl⟩ | ⟨hfull, rfl, rfl, rfl, rfl, rfl, hz, rfl, rfl, rfl⟩
    · have hEq := eql_disk_p Wd
      unfold valD at hEq
      clear HK
      go_upto_region 15 with fail
      refine Whole.regionL ?_
      repeat (first | go_big_quiet_skip | (go_big_quiet_want; first | (refine Whole.quiet_load _ 26 rfl _ _ _ rfl (hA12.get 2 rfl) Try.underlying26 rfl szD ?_; simp only [Act.put, List.setIfInBounds_toArray, List.set_cons_succ, List.set_cons_zero]; go_big_quiet_on) | (refine Whole.quiet_load _ 26 rfl _ _ _ rfl (hA12.get 3 rfl) Try.underlying26 rfl szD ?_; simp only [Act.put, List.setIfInBounds_toArray, List.set_cons_succ, List.set_cons_zero]; go_big_quiet_on) | (refine Whole.quiet_bin .eql _ _ 26 26 rfl (.bool true) _ _ rfl rfl (by kernel_rfl) hEq ?_; simp only [Act.put, List.setIfInBounds_toArray, List.set_cons_succ, List.set_cons_zero]; go_big_quiet_on) | (go_big_quiet_op; go_big_quiet_on)))
      refine wpQuiet_nil ?_
      rintro _ ⟨pq, rfl⟩
      have hbb := grows hB12 pq.below
      clear hA12 hB12 hEq HrW HrY HrC HoW HoD HoC HCr HrX Hn2 Hn1
      go_wp2
      go_ret
      exact ⟨rfl, hbb⟩
    · obtain ⟨m1, m2, e1, e2, e3, e4, e5⟩ := clip_runs (old ++ s) n
      have mx := max_run n 0 m1 (by omega)
      have mn := min_run m1 ((old ++ s).size : Int) m2 (by omega)
      rw [e5] at hz
      clear HK e1 e2 e5
      obtain ⟨al, hal⟩ : ∃ al, old ++ s = al := ⟨_, rfl⟩
      rw [hal] at mn hz HrW HrY HrX e4
      subst hz
      go_upto_region 16 with fail
      clear hal
      refine Quiet.region (by kernel_rfl) (by kernel_rfl) ?_
      try simp only [List.append]
      repeat (first | go_big_quiet_skip | (go_big_quiet_want; first | (refine Whole.quiet_load _ 26 rfl _ _ _ rfl (hA12.get 0 rfl) Try.underlying26 rfl szD ?_; simp only [Act.put, List.setIfInBounds_toArray, List.set_cons_succ, List.set_cons_zero]; go_big_quiet_on) | (refine Whole.quiet_load _ 26 rfl _ _ _ rfl (hA12.get 1 rfl) Try.underlying26 rfl szD ?_; simp only [Act.put, List.setIfInBounds_toArray, List.set_cons_succ, List.set_cons_zero]; go_big_quiet_on) | (refine Whole.quiet_load _ 26 rfl _ _ _ rfl (hA12.get 2 rfl) Try.underlying26 rfl szD ?_; simp only [Act.put, List.setIfInBounds_toArray, List.set_cons_succ, List.set_cons_zero]; go_big_quiet_on) | (go_big_quiet_op; first | go_big_quiet_on | go_big_quiet_call (((go_at_call 24; first | (with_reducible exact Quiet.calls (HrW.out _)) | (with_reducible exact Quiet.calls (HrY.out _)) | (with_reducible exact Quiet.calls (HrC.out _)) | (with_reducible exact Quiet.calls (HoW.out _)) | (with_reducible exact Quiet.calls (HoD.out _)) | (with_reducible exact Quiet.calls (HoC.out _)) | (with_reducible exact Quiet.calls (HrX.out _)) | (with_reducible exact Quiet.calls (Hn2.out _)) | (with_reducible exact Quiet.calls (Hn1.out _))))))))
      refine wpQuiet_nil ?_
      rintro _ ⟨pq, rfl⟩
      have hA13 := hA12.more pq.below
      have hB13 := grows hB12 pq.below
      generalize pq.world = wq at hA13 hB13 ⊢
      clear hA12 hB12 mx mn
      go_upto_region 18 with fail
      refine Quiet.region (by kernel_rfl) (by kernel_rfl) ?_
      try simp only [List.append]
      repeat (first | go_big_quiet_skip | (go_big_quiet_want; first | (refine Whole.quiet_load _ 26 rfl _ _ _ rfl (hA13.get 0 rfl) Try.underlying26 rfl szD ?_; simp only [Act.put, List.setIfInBounds_toArray, List.set_cons_succ, List.set_cons_zero]; go_big_quiet_on) | (refine Whole.quiet_load _ 26 rfl _ _ _ rfl (hA13.get 1 rfl) Try.underlying26 rfl szD ?_; simp only [Act.put, List.setIfInBounds_toArray, List.set_cons_succ, List.set_cons_zero]; go_big_quiet_on) | (refine Whole.quiet_load _ 26 rfl _ _ _ rfl (hA13.get 2 rfl) Try.underlying26 rfl szD ?_; simp only [Act.put, List.setIfInBounds_toArray, List.set_cons_succ, List.set_cons_zero]; go_big_quiet_on) | (refine Whole.quiet_load _ 26 rfl _ _ _ rfl (hA13.get 3 rfl) Try.underlying26 rfl szD ?_; simp only [Act.put, List.setIfInBounds_toArray, List.set_cons_succ, List.set_cons_zero]; go_big_quiet_on) | (go_big_quiet_op; first | go_big_quiet_on | go_big_quiet_call ((first | (go_at_call 24; first | (with_reducible exact Quiet.calls (HrW.out _)) | (with_reducible exact Quiet.calls (HrY.out _)) | (with_reducible exact Quiet.calls (HrC.out _)) | (with_reducible exact Quiet.calls (HoW.out _)) | (with_reducible exact Quiet.calls (HoD.out _)) | (with_reducible exact Quiet.calls (HoC.out _)) | (with_reducible exact Quiet.calls (HrX.out _)) | (with_reducible exact Quiet.calls (Hn2.out _)) | (with_reducible exact Quiet.calls (Hn1.out _))) | (go_at_call 16; (with_reducible exact Quiet.calls (HCr.out _))))))))
      refine wpQuiet_nil ?_
      rintro _ ⟨pq, rfl⟩
      have hbb := grows hB13 pq.below
      clear hA13 hB13 HrW HrY HrC HoW HoD HoC HCr HrX Hn2 Hn1
      go_wp2
      go_ret
      exact ⟨rfl, hbb⟩

theorem walk (v : Value) (ls : List Ac) (hok : ∀ t ∈ ls, t.ok) (hst : ∀ t ∈ ls, t.2.2.1.size ≤ 140737488351232) (fi : Int) (h0 : 0 ≤ fi) (h1 : fi ≤ 255) (s : ByteArray) (hs : s.size ≤ 140737488351232) (n : Int) (_ : -9223372036854775808 ≤ n) (hn1 : n ≤ 9223372036854775807) (w : World) (hv : ARow w v ls) :
    Calls Try.prog 7 #[v, .int .u8 fi, .string s, .int .i64 n] w fun e w' => e = .returned (.bool true) ∧ Below w.heap.size w w' :=
  walk0 run_any v ls hok (fun t ht => Nat.le_trans (hst t ht) (by decide)) fi h0 h1 s (by omega) n hn1 w hv

set_option maxRecDepth 100000 in
theorem lifted (os : Os) (started : os.Started) (H : Type) (enc : TypeId × Value → H) :
    ReturnsInHanded {} Try.checked os 7 .any (Rows.diskReadsSpec.pre6 enc Try.prog Try.f7 Rows.diskReadsRow.domain false) (Rows.diskReadsSpec.post enc Try.prog Try.f7 false true false false) := by
  refine returnsInHanded_of_change_sized (C := Try.checked) Ends.own started (by kernel_rfl) Try.func7
    (ChangeSpec.witness6 (enc := enc) (C := Try.checked) false ⟨#[], #[.slice none 0 0, .int .u8 0, .string ⟨#[]⟩, .int .i64 0], []⟩ 8 (by kernel_rfl) (by kernel_rfl) (by kernel_rfl) (by kernel_rfl)) ?_
  intro W base args ds gs before hval0 hW _ hsz0 _
  have hval : ∀ (j : Nat) t v, Try.f7.params[j]? = some t → args[j]? = some v → Value.okWide Try.prog W .any base t v := hval0
  have hsz : (DataW.weightsEach Try.prog (Try.f7.params.toList ++ Rows.diskReadsSpec.plain.varTypes Try.prog) (ds ++ gs)).all (· ≤ reachBytes) = true := hsz0
  have hW' := hW
  obtain ⟨p, q, hA0, hV, rfl, hfz, hnd⟩ := hW
  have hA : DataW.TrodAll enc Try.prog W 0 (fun _ => true) true Try.f7.params.toList args.toList ds p := hA0
  rw [Try.params7] at hA hval hsz
  obtain ⟨v0, vs0, d0, ds0, p0, q0, hargs, rfl, rfl, h0, r0⟩ := trodAll_cons hA
  obtain ⟨v1, vs1, d1, ds1, p1, q1, rfl, rfl, rfl, h1, r1⟩ := trodAll_cons r0
  obtain ⟨v2, vs2, d2, ds2, p2, q2, rfl, rfl, rfl, h2, r2⟩ := trodAll_cons r1
  obtain ⟨v3, vs3, d3, ds3, p3, q3, rfl, rfl, rfl, h3, r3⟩ := trodAll_cons r2
  obtain ⟨rfl, rfl, rfl⟩ := trodAll_nil r3
  obtain rfl : args = #[v0, v1, v2, v3] := by cases args; simp_all
  obtain ⟨rfl, rfl⟩ := trodVars_none hV
  obtain ⟨a0, w0, g0, k0⟩ := Disk.open_acts (e := 73) (f0 := (Try.prog.fieldsOf 73)[0]!) (f1 := (Try.prog.fieldsOf 73)[1]!) (f2 := (Try.prog.fieldsOf 73)[2]!) (f3 := (Try.prog.fieldsOf 73)[3]!) Try.underlying55 (by kernel_rfl) (by kernel_rfl) (by kernel_rfl) (by kernel_rfl) (by kernel_rfl) (by kernel_rfl) (by kernel_rfl) (by kernel_rfl) (by kernel_rfl) (by kernel_rfl) (by kernel_rfl) (by kernel_rfl) (by kernel_rfl) (by kernel_rfl) (hval 0 55 v0 rfl rfl) h0
  have q0 : ∀ n ∈ d0.weights Try.prog 55, n ≤ 140737488351232 := fun n hn => of_decide_eq_true (List.all_eq_true.1 hsz n (DataW.weights_mem_each (j := 0) rfl rfl n hn))
  have b0 := g0.reach (P := Try.prog) (f0 := (Try.prog.fieldsOf 73)[0]!) (f1 := (Try.prog.fieldsOf 73)[1]!) (f2 := (Try.prog.fieldsOf 73)[2]!) (f3 := (Try.prog.fieldsOf 73)[3]!) Try.underlying55 (by kernel_rfl) (by kernel_rfl) q0
  obtain ⟨a1, rfl, rfl, rfl, w1⟩ := open_int Try.underlying5 (hval 1 5 v1 rfl rfl) h1
  obtain ⟨a2, rfl, rfl, rfl, w2⟩ := Go.ChangeMaps.open_string Try.underlying9 (hval 2 9 v2 rfl rfl) h2
  obtain ⟨a3, rfl, rfl, rfl, w3⟩ := open_int Try.underlying3 (hval 3 3 v3 rfl rfl) h3
  have b1 := bounds_u8 w1
  have b2 : a2.size ≤ 140737488351232 := by have := sized_string hsz (j := 2) rfl rfl; rw [Array.length_toList] at this; exact this
  have b3 := bounds_i64 w3
  refine (walk v0 a0 k0 b0.2 a1 b1.1 b1.2 a2 b2 a3 b3.1 b3.2 W w0).mono fun e W' ⟨he, hb⟩ => ?_
  subst he
  exact ⟨_, rfl, Ends.law_end Ends.laidOut (by rw [Try.params7]; decide +kernel) rfl (by kernel_rfl) Try.underlying4 hW' rfl hb⟩

/-- The statement. -/
theorem proved : Rows.DiskReadsSaid :=
  OpenClaim.holds_of_wide 7 Try.f7 rfl rfl rfl rfl rfl rfl rfl ⟨rfl, rfl, rfl, rfl, rfl⟩ rfl rfl rfl rfl rfl (by kernel_rfl) Try.func7 (by kernel_rfl)
    (of_decide_eq_true (by kernel_rfl)) (by unfold Func.isWrapper; first | (rw [if_pos (by decide +kernel)]; kernel_rfl) | (rw [if_neg (by decide +kernel)]; exact ⟨rfl, rfl⟩))
    (fun os started H enc _ => lifted os started H enc)
end Go.Proofs.Ytoomanlonhnleaa.diskReads
