/- Proved: demesnelaw09.DiskKeeps answers true for every slice of acts, and whatever is kept, and leaves them as they were. No condition. -/
import Derived.Test.YtoomanlonhnleaaDLaws
import Derived.Test.YtoomanlonhnleaaDRun
namespace Go.Proofs.Ytoomanlonhnleaa.diskKeeps
open Go.ChangeShapes Go.WideShapes Go.ChangeAt Go.RowKit
open Go.Proofs.Ytoomanlonhnleaa.Disk

/-- One file: what is safe, what is left, what was. -/
structure Three (a x y : ByteArray) : Prop where
  l1 : ¬ (x.size : Int) < (a.size : Int)
  c1 : x.extract 0 a.size = a
  l2 : ¬ (y.size : Int) < (x.size : Int)
  c2 : y.extract 0 x.size = x
  d1 : decide (x.size < a.size) = false
  d2 : decide (y.size < x.size) = false
theorem three {a x y : ByteArray} (h : Pre a x) (k : Pre x y) : Three a x y := ⟨by have := h.size; omega, h.cut, by have := k.size; omega, k.cut, decide_eq_false (by have := h.size; omega), decide_eq_false (by have := k.size; omega)⟩
set_option maxRecDepth 100000 in
set_option maxHeartbeats 1000000 in
theorem walk0 (HRun : RunSays) (v : Value) (ls : List Ac) (hok : ∀ t ∈ ls, t.ok) (hst : ∀ t ∈ ls, t.2.2.1.size ≤ 1125899906842624) (keep : Int) (w : World) (hv : ARow w v ls) :
    Calls Try.prog 4 #[v, .int .i64 keep] w fun e w' => e = .returned (.bool true) ∧ Below w.heap.size w w' := by
  have HN := Lib.hid (fun w => new_any 1000 w)
  have HR := Lib.hid (fun w (h : ARow w v ls) => HRun 1000 (by decide) ls v hok hst w h)
  have HV := Lib.hid hv
  obtain ⟨D0, hD0⟩ : ∃ D0, new 1000 = D0 := ⟨_, rfl⟩
  have hD0' : new ((1000 : Nat) : Int) = D0 := hD0
  rw [hD0'] at HR
  rw [hD0] at HN
  unfold valD at HN HR
  clear hD0 hD0' hv HRun hok hst
  go_enter Try.func4, Try.ntmps4
  go_wp2_with fail
  refine (examples_any _).mono ?_
  rintro e w1 ⟨rfl, hb1⟩
  go_wp2_with fail
  refine (HN.out _).mono ?_
  rintro e w2 ⟨rfl, hb2⟩
  have hb12 := grows hb1 hb2
  have hv2 := HV.out.below hb12
  go_wp2_with fail
  refine (HR.out _ hv2).mono ?_
  rintro e w3 ⟨d, a, b, hO, rfl, hb3⟩
  have hb := grows hb12 hb3
  have hL := laid_all hb d a b
  have l1 := laid_box w3
  have l2 := laid_pair w3 d
  unfold retR valD
  clear hb1 hb2 hb12 hb3 hb hv2 HV HN HR
  go_upto_region 5 with (first | (refine Whole.store _ rfl rfl _ _ 26 rfl w3.heap.size _ (cellsD d) rfl rfl l1 szD rfl (one_cells d) ?_) | (refine Whole.store _ rfl rfl _ _ 56 rfl (w3.heap.size + 1) _ #[.string a, .string b] rfl rfl l2 szP rfl (one2 a b) ?_))
  obtain ⟨W, hW⟩ : ∃ W, W = (((w3.alloc zeroD).alloc (pair ⟨#[]⟩ ⟨#[]⟩)).setRow w3.heap.size (cellsD d)).setRow (w3.heap.size + 1) #[.string a, .string b] := ⟨_, rfl⟩
  rw [← hW] at hL ⊢
  clear hW l1 l2
  have hr := hO.room
  have huc := used_crash d keep
  have HC := Lib.hid (fun w => crash_any d (by omega) keep w)
  have HU := Lib.hid (fun w => used_any d (by omega) w)
  have HUc := Lib.hid (fun w => used_any (crash d keep) (by omega) w)
  have HR0 := Lib.hid (fun w => read_any d (by unfold used at hr; omega) 0 w)
  have HR1 := Lib.hid (fun w => read_any d (by unfold used at hr; omega) 1 w)
  have HX0 := Lib.hid (fun w => read_any (crash d keep) (by unfold used at huc hr; omega) 0 w)
  have HX1 := Lib.hid (fun w => read_any (crash d keep) (by unfold used at huc hr; omega) 1 w)
  obtain ⟨k0, k0', k1, k1'⟩ := keeps hO.safe keep
  have T0 := Lib.hid (three k0 k0')
  have T1 := Lib.hid (three k1 k1')
  have hcd : (crash d keep).down = true := rfl
  have hc0 : (crash d keep).f0.soft = ⟨#[]⟩ := rfl
  have hc1 : (crash d keep).f1.soft = ⟨#[]⟩ := rfl
  obtain ⟨c, hc⟩ : ∃ c, crash d keep = c := ⟨_, rfl⟩
  rw [hc] at huc HC HUc HX0 HX1 T0 T1 hcd hc0 hc1
  clear hc k0 k0' k1 k1' hO
  obtain ⟨y0, hy0⟩ : ∃ y, read d 0 = y := ⟨_, rfl⟩
  obtain ⟨y1, hy1⟩ : ∃ y, read d 1 = y := ⟨_, rfl⟩
  obtain ⟨x0, hx0⟩ : ∃ y, read c 0 = y := ⟨_, rfl⟩
  obtain ⟨x1, hx1⟩ : ∃ y, read c 1 = y := ⟨_, rfl⟩
  obtain ⟨u, hu⟩ : ∃ u, used d = u := ⟨_, rfl⟩
  obtain ⟨z, hz⟩ : ∃ u, used c = u := ⟨_, rfl⟩
  rw [hy0] at HR0 T0
  rw [hy1] at HR1 T1
  rw [hx0] at HX0 T0
  rw [hx1] at HX1 T1
  rw [hu] at HU huc
  rw [hz] at HUc huc
  have huz : (z : Int) ≤ (u : Int) := by omega
  clear hy0 hy1 hx0 hx1 hu hz hr huc
  unfold valD at HC HU HUc HR0 HR1 HX0 HX1
  go_wp2_with (refine Whole.load W rfl _ 26 rfl _ _ _ rfl hL.d Try.underlying26 rfl szD ?_)
  refine (HC.out _).mono ?_
  rintro e w5 ⟨rfl, hb5⟩
  have hL5 := (hL.more hb5).more (Boxes.old w5 (box c))
  have hc5 := Boxes.fresh w5 (box c)
  clear hb5 hL HC
  go_upto_region 6 with (refine store_new w5 rfl rfl _ _ 26 rfl _ (cellsD c) rfl rfl szD rfl (one_cells c) ?_)
  obtain ⟨W5, hW5⟩ : ∃ W5, W5 = w5.alloc (box c) := ⟨_, rfl⟩
  rw [← hW5] at hL5 hc5 ⊢
  clear hW5
  obtain ⟨n5, hn5⟩ : ∃ n, w5.heap.size = n := ⟨_, rfl⟩
  obtain ⟨n3, hn3⟩ : ∃ n, w3.heap.size = n := ⟨_, rfl⟩
  rw [hn5] at hc5 ⊢
  rw [hn3] at hL5 ⊢
  clear hn5 hn3
  go_wp2
  go_loopw [9] (fun i wr => ∃ k : Nat, k ≤ 2 ∧ i = .int .i64 k ∧ Laid w wr n3 d a b ∧ wr.heap[n5]? = some (box c)) (fun i _ => 3 - (intOf i).toNat)
  case atStart => exact ⟨0, by omega, rfl, hL5, hc5⟩
  case round =>
    clear hL5 hc5
    obtain ⟨k, hk, rfl, hL, hc⟩ := hrel
    have hk' : k = 0 ∨ k = 1 ∨ k = 2 := by omega
    rcases hk' with rfl | rfl | rfl
    · go_wp2_with (refine Whole.load wr rfl _ 26 rfl _ _ _ rfl hL.d Try.underlying26 rfl szD ?_)
      refine (HR0.out _).mono ?_
      rintro e w6 ⟨rfl, hb6⟩
      have hL6 := hL.more hb6
      have hc6 := Boxes.keep hc hb6
      clear hb6 hL hc
      go_wp2_with (refine Whole.load w6 rfl _ 26 rfl _ _ _ rfl hc6 Try.underlying26 rfl szD ?_)
      refine (HX0.out _).mono ?_
      rintro e w7 ⟨rfl, hb7⟩
      have hL7 := hL6.more hb7
      have hc7 := Boxes.keep hc6 hb7
      clear hb7 hL6 hc6
      obtain ⟨t1, t2, t3, t4, t5, t6⟩ := T0.out
      have q := Quiet.cell (Boxes.lt_of hL7.s) (cells2 hL7.s).1
      go_upto_region 11 with fail
      refine Quiet.region (by kernel_rfl) (by kernel_rfl) ?_
      repeat (first | go_big_quiet_skip | (go_big_quiet_want; go_big_quiet_op; go_big_quiet_on))
      refine wpQuiet_nil ?_
      rintro _ ⟨pq, rfl⟩
      have hL8 := hL7.more pq.below
      have hc8 := Boxes.keep hc7 pq.below
      clear q hL7 hc7 t1 t2 t3 t4 t5 t6
      go_wp2
      go_roundw
      case rel => exact ⟨1, by omega, by go_num, hL8, hc8⟩
      case measure => simp [intOf]
    · go_wp2_with (refine Whole.load wr rfl _ 26 rfl _ _ _ rfl hL.d Try.underlying26 rfl szD ?_)
      refine (HR1.out _).mono ?_
      rintro e w6 ⟨rfl, hb6⟩
      have hL6 := hL.more hb6
      have hc6 := Boxes.keep hc hb6
      clear hb6 hL hc
      go_wp2_with (refine Whole.load w6 rfl _ 26 rfl _ _ _ rfl hc6 Try.underlying26 rfl szD ?_)
      refine (HX1.out _).mono ?_
      rintro e w7 ⟨rfl, hb7⟩
      have hL7 := hL6.more hb7
      have hc7 := Boxes.keep hc6 hb7
      clear hb7 hL6 hc6
      obtain ⟨t1, t2, t3, t4, t5, t6⟩ := T1.out
      have q := Quiet.cell (Boxes.lt_of hL7.s) (cells2 hL7.s).2
      go_upto_region 11 with fail
      refine Quiet.region (by kernel_rfl) (by kernel_rfl) ?_
      repeat (first | go_big_quiet_skip | (go_big_quiet_want; go_big_quiet_op; go_big_quiet_on))
      refine wpQuiet_nil ?_
      rintro _ ⟨pq, rfl⟩
      have hL8 := hL7.more pq.below
      have hc8 := Boxes.keep hc7 pq.below
      clear q hL7 hc7 t1 t2 t3 t4 t5 t6
      go_wp2
      go_roundw
      case rel => exact ⟨2, by omega, by go_num, hL8, hc8⟩
      case measure => simp [intOf]
    · go_upto_region 13 with fail
      have q5 := Quiet.cell (Boxes.lt_of hc) ((Boxes.cell_at (i := 5) hc (v := .bool c.down) rfl).trans (by rw [hcd]))
      have q2 := Quiet.cell (Boxes.lt_of hc) ((Boxes.cell_at (i := 2) hc (v := .string c.f0.soft) rfl).trans (by rw [hc0]))
      have q4 := Quiet.cell (Boxes.lt_of hc) ((Boxes.cell_at (i := 4) hc (v := .string c.f1.soft) rfl).trans (by rw [hc1]))
      have hdz : decide ((z : Int) ≤ (u : Int)) = true := decide_eq_true (by omega)
      refine Quiet.region (by kernel_rfl) (by kernel_rfl) ?_
      repeat (first | go_big_quiet_skip | (go_big_quiet_want; first | (refine Whole.quiet_load _ 26 rfl _ _ _ rfl hL.d Try.underlying26 rfl szD ?_; simp only [Act.put, List.setIfInBounds_toArray, List.set_cons_succ, List.set_cons_zero]; go_big_quiet_on) | (refine Whole.quiet_load _ 26 rfl _ _ _ rfl hc Try.underlying26 rfl szD ?_; simp only [Act.put, List.setIfInBounds_toArray, List.set_cons_succ, List.set_cons_zero]; go_big_quiet_on) | (go_big_quiet_op; first | go_big_quiet_on | go_big_quiet_call ((go_at_call 22; first | (with_reducible exact Quiet.calls (HU.out _)) | (with_reducible exact Quiet.calls (HUc.out _)))))))
      refine wpQuiet_nil ?_
      rintro _ ⟨pq, rfl⟩
      have hbb := grows hL.b pq.below
      clear hL hc q5 q2 q4 HU HUc
      go_wp2
      go_ret
      exact ⟨rfl, hbb⟩

theorem walk (v : Value) (ls : List Ac) (hok : ∀ t ∈ ls, t.ok) (hst : ∀ t ∈ ls, t.2.2.1.size ≤ 140737488351232) (keep : Int) (_ : -9223372036854775808 ≤ keep) (_ : keep ≤ 9223372036854775807) (w : World) (hv : ARow w v ls) :
    Calls Try.prog 4 #[v, .int .i64 keep] w fun e w' => e = .returned (.bool true) ∧ Below w.heap.size w w' :=
  walk0 run_any v ls hok (fun t ht => Nat.le_trans (hst t ht) (by decide)) keep w hv

set_option maxRecDepth 100000 in
theorem lifted (os : Os) (started : os.Started) (H : Type) (enc : TypeId × Value → H) :
    ReturnsInHanded {} Try.checked os 4 .any (Rows.diskKeepsSpec.pre6 enc Try.prog Try.f4 Rows.diskKeepsRow.domain false) (Rows.diskKeepsSpec.post enc Try.prog Try.f4 false true false false) := by
  refine returnsInHanded_of_change_sized (C := Try.checked) Ends.own started (by kernel_rfl) Try.func4
    (ChangeSpec.witness6 (enc := enc) (C := Try.checked) false ⟨#[], #[.slice none 0 0, .int .i64 0], []⟩ 8 (by kernel_rfl) (by kernel_rfl) (by kernel_rfl) (by kernel_rfl)) ?_
  intro W base args ds gs before hval0 hW _ hsz0 _
  have hval : ∀ (j : Nat) t v, Try.f4.params[j]? = some t → args[j]? = some v → Value.okWide Try.prog W .any base t v := hval0
  have hsz : (DataW.weightsEach Try.prog (Try.f4.params.toList ++ Rows.diskKeepsSpec.plain.varTypes Try.prog) (ds ++ gs)).all (· ≤ reachBytes) = true := hsz0
  have hW' := hW
  obtain ⟨p, q, hA0, hV, rfl, hfz, hnd⟩ := hW
  have hA : DataW.TrodAll enc Try.prog W 0 (fun _ => true) true Try.f4.params.toList args.toList ds p := hA0
  rw [Try.params4] at hA hval hsz
  obtain ⟨v0, vs0, d0, ds0, p0, q0, hargs, rfl, rfl, h0, r0⟩ := trodAll_cons hA
  obtain ⟨v1, vs1, d1, ds1, p1, q1, rfl, rfl, rfl, h1, r1⟩ := trodAll_cons r0
  obtain ⟨rfl, rfl, rfl⟩ := trodAll_nil r1
  obtain rfl : args = #[v0, v1] := by cases args; simp_all
  obtain ⟨rfl, rfl⟩ := trodVars_none hV
  obtain ⟨a0, w0, g0, k0⟩ := Disk.open_acts (e := 73) (f0 := (Try.prog.fieldsOf 73)[0]!) (f1 := (Try.prog.fieldsOf 73)[1]!) (f2 := (Try.prog.fieldsOf 73)[2]!) (f3 := (Try.prog.fieldsOf 73)[3]!) Try.underlying55 (by kernel_rfl) (by kernel_rfl) (by kernel_rfl) (by kernel_rfl) (by kernel_rfl) (by kernel_rfl) (by kernel_rfl) (by kernel_rfl) (by kernel_rfl) (by kernel_rfl) (by kernel_rfl) (by kernel_rfl) (by kernel_rfl) (by kernel_rfl) (hval 0 55 v0 rfl rfl) h0
  have q0 : ∀ n ∈ d0.weights Try.prog 55, n ≤ 140737488351232 := fun n hn => of_decide_eq_true (List.all_eq_true.1 hsz n (DataW.weights_mem_each (j := 0) rfl rfl n hn))
  have b0 := g0.reach (P := Try.prog) (f0 := (Try.prog.fieldsOf 73)[0]!) (f1 := (Try.prog.fieldsOf 73)[1]!) (f2 := (Try.prog.fieldsOf 73)[2]!) (f3 := (Try.prog.fieldsOf 73)[3]!) Try.underlying55 (by kernel_rfl) (by kernel_rfl) q0
  obtain ⟨a1, rfl, rfl, rfl, w1⟩ := open_int Try.underlying3 (hval 1 3 v1 rfl rfl) h1
  have b1 := bounds_i64 w1
  refine (walk v0 a0 k0 b0.2 a1 b1.1 b1.2 W w0).mono fun e W' ⟨he, hb⟩ => ?_
  subst he
  exact ⟨_, rfl, Ends.law_end Ends.laidOut (by rw [Try.params4]; decide +kernel) rfl (by kernel_rfl) Try.underlying4 hW' rfl hb⟩

/-- The statement. -/
theorem proved : Rows.DiskKeepsSaid :=
  OpenClaim.holds_of_wide 4 Try.f4 rfl rfl rfl rfl rfl rfl rfl ⟨rfl, rfl, rfl, rfl, rfl⟩ rfl rfl rfl rfl rfl (by kernel_rfl) Try.func4 (by kernel_rfl)
    (of_decide_eq_true (by kernel_rfl)) (by unfold Func.isWrapper; first | (rw [if_pos (by decide +kernel)]; kernel_rfl) | (rw [if_neg (by decide +kernel)]; exact ⟨rfl, rfl⟩))
    (fun os started H enc _ => lifted os started H enc)
end Go.Proofs.Ytoomanlonhnleaa.diskKeeps
