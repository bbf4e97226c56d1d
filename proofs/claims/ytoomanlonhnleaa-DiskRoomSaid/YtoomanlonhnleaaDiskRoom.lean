/- Proved: demesnelaw09.DiskRoom answers true for every slice of acts, size and text, and leaves them as they were. No condition. -/
import Derived.Test.YtoomanlonhnleaaDLaws
import Derived.Test.YtoomanlonhnleaaDRun
namespace Go.Proofs.Ytoomanlonhnleaa.diskRoom
open Go.ChangeShapes Go.WideShapes Go.ChangeAt Go.RowKit
open Go.Proofs.Ytoomanlonhnleaa.Disk

set_option maxRecDepth 100000 in
set_option maxHeartbeats 1000000 in
theorem walk0 (HRun : RunSays) (v : Value) (ls : List Ac) (hok : ∀ t ∈ ls, t.ok) (hst : ∀ t ∈ ls, t.2.2.1.size ≤ 1125899906842624) (N : Nat) (hN : N ≤ 255) (s : ByteArray) (hs : s.size ≤ 140737488351232) (w : World) (hv : ARow w v ls) :
    Calls Try.prog 5 #[v, .int .u8 (N : Int), .string s] w fun e w' => e = .returned (.bool true) ∧ Below w.heap.size w w' := by
  have HN := Lib.hid (fun w => new_any (N : Int) w)
  have HR := Lib.hid (fun w (h : ARow w v ls) => HRun N (by omega) ls v hok hst w h)
  have HV := Lib.hid hv
  have hwr : IntKind.i64.wrap (N : Int) = (N : Int) := by rw [IntKind.wrap_i64]; omega
  obtain ⟨D0, hD0⟩ : ∃ D0, new (N : Int) = D0 := ⟨_, rfl⟩
  rw [hD0] at HN HR
  unfold valD at HN HR
  clear hD0 hv HRun hok hst
  go_enter Try.func5, Try.ntmps5
  go_wp2_with fail
  refine (examples_any _).mono ?_
  rintro e w1 ⟨rfl, hb1⟩
  go_wp2_with fail
  refine (HN.out _).mono ?_
  rintro e w2 ⟨rfl, hb2⟩
  have hb12 := grows hb1 hb2
  have hv2 := HV.out.below hb12
  go_wp2_with fail
  refine (HR.out _ hv2).mono ?_
  rintro e w3 ⟨d, a, b, hO, rfl, hb3⟩
  have hb := grows hb12 hb3
  have hL := laid_all hb d a b
  have l1 := laid_box w3
  have l2 := laid_pair w3 d
  unfold retR valD
  clear hb1 hb2 hb12 hb3 hb hv2 HV HN HR
  go_upto_region 5 with (first | (refine Whole.store _ rfl rfl _ _ 26 rfl w3.heap.size _ (cellsD d) rfl rfl l1 szD rfl (one_cells d) ?_) | (refine Whole.store _ rfl rfl _ _ 56 rfl (w3.heap.size + 1) _ #[.string a, .string b] rfl rfl l2 szP rfl (one2 a b) ?_))
  obtain ⟨W, hW⟩ : ∃ W, W = (((w3.alloc zeroD).alloc (pair ⟨#[]⟩ ⟨#[]⟩)).setRow w3.heap.size (cellsD d)).setRow (w3.heap.size + 1) #[.string a, .string b] := ⟨_, rfl⟩
  rw [← hW] at hL ⊢
  clear hW l1 l2
  have hr := hO.room
  have hsz := hO.size
  have HU := Lib.hid (fun w => used_any d (by omega) w)
  have HW := Lib.hid (fun w => write_any d hO.fair 0 s (by omega) w)
  have hform := write_form d 0 s
  have hdown := down_write (d := d) (f := 0) s
  obtain ⟨y, er, hy⟩ : ∃ y er, write d 0 s = (y, er) := ⟨_, _, rfl⟩
  have key : (d.down = true ∧ y = d ∧ er = 12) ∨ (d.down = false ∧ (N : Int) < used d + s.size ∧ y = d ∧ er = 9) ∨ (d.down = false ∧ ¬ (N : Int) < used d + s.size ∧ er ≠ 9) := by
    by_cases hd : d.down = true
    · have := hdown hd (.inl rfl)
      rw [hy] at this
      exact .inl ⟨hd, (Prod.mk.inj this).1, (Prod.mk.inj this).2⟩
    · rw [Bool.not_eq_true] at hd
      have h1 := hform (up_refused hd (.inl rfl))
      rw [hy, hsz] at h1
      by_cases hf : (N : Int) < used d + s.size
      · rw [if_pos hf] at h1
        exact .inr (.inl ⟨hd, hf, (Prod.mk.inj h1).1, (Prod.mk.inj h1).2⟩)
      · rw [if_neg hf] at h1
        refine .inr (.inr ⟨hd, hf, ?_⟩)
        have : er = (burnt d (put d 0 ((get d 0).more s)) (put d 0 ((get d 0).more s))).2 := congrArg Prod.snd h1
        rw [this]
        unfold burnt
        split <;> simp
  rw [hy] at HW
  clear hy hform hdown hO
  obtain ⟨u, hu⟩ : ∃ u, used d = u := ⟨_, rfl⟩
  rw [hu] at HU hr key
  clear hu
  unfold retD valD at HW
  unfold valD at HU
  dsimp only at HW
  have hru : ¬ (N : Int) < (u : Int) := by omega
  have hEq := eql_disk_p d
  unfold valD at hEq
  go_wp2_with (refine Whole.load W rfl _ 26 rfl _ _ _ rfl hL.d Try.underlying26 rfl szD ?_)
  refine (HU.out _).mono ?_
  rintro e w4 ⟨rfl, hb4⟩
  have hL4 := hL.more hb4
  clear hb4 hL
  go_wp2_with (refine Whole.load w4 rfl _ 26 rfl _ _ _ rfl hL4.d Try.underlying26 rfl szD ?_)
  refine (HW.out _).mono ?_
  rintro e w5 ⟨rfl, hb5⟩
  have hL5 := (hL4.more hb5).more (Boxes.old w5 (box y))
  have hy5 := Boxes.fresh w5 (box y)
  clear hb5 hL4
  go_upto_region 8 with (refine store_new w5 rfl rfl _ _ 26 rfl _ (cellsD y) rfl rfl szD rfl (one_cells y) ?_)
  obtain ⟨W5, hW5⟩ : ∃ W5, W5 = w5.alloc (box y) := ⟨_, rfl⟩
  rw [← hW5] at hL5 hy5 ⊢
  clear hW5
  go_wp2_with (refine Whole.load W5 rfl _ 26 rfl _ _ _ rfl hL5.d Try.underlying26 rfl szD ?_)
  refine (HU.out _).mono ?_
  rintro e w6 ⟨rfl, hb6⟩
  have hL6 := hL5.more hb6
  have hy6 := Boxes.keep hy5 hb6
  clear hb6 hL5 hy5
  have d5 := Boxes.cell_at (i := 5) hL6.d (v := .bool d.down) rfl
  have hus : (u : Int) + (s.size : Int) ≤ 281474976710656 := by omega
  rcases key with ⟨hd, rfl, rfl⟩ | ⟨hd, hf, rfl, rfl⟩ | ⟨hd, hf, her⟩
  · rw [hd] at d5
    go_upto_region 10 with fail
    refine Whole.regionL ?_
    repeat (first | go_big_quiet_skip | (go_big_quiet_want; first | (refine Whole.quiet_load _ 26 rfl _ _ _ rfl hL6.d Try.underlying26 rfl szD ?_; simp only [Act.put, List.setIfInBounds_toArray, List.set_cons_succ, List.set_cons_zero]; go_big_quiet_on) | (refine Whole.quiet_load _ 26 rfl _ _ _ rfl hy6 Try.underlying26 rfl szD ?_; simp only [Act.put, List.setIfInBounds_toArray, List.set_cons_succ, List.set_cons_zero]; go_big_quiet_on) | (refine Whole.quiet_bin .eql _ _ 26 26 rfl (.bool true) _ _ rfl rfl (by kernel_rfl) hEq ?_; simp only [Act.put, List.setIfInBounds_toArray, List.set_cons_succ, List.set_cons_zero]; go_big_quiet_on) | (go_big_quiet_op; go_big_quiet_on)))
    refine wpQuiet_nil ?_
    rintro _ ⟨pq, rfl⟩
    have hbb := grows hL6.b pq.below
    clear hL6 hy6 hEq d5 HU HW
    go_wp2
    go_ret
    exact ⟨rfl, hbb⟩
  · rw [hd] at d5
    have hfd : decide ((N : Int) < (u : Int) + (s.size : Int)) = true := decide_eq_true (by omega)
    go_upto_region 11 with fail
    refine Whole.regionL ?_
    repeat (first | go_big_quiet_skip | (go_big_quiet_want; first | (refine Whole.quiet_load _ 26 rfl _ _ _ rfl hL6.d Try.underlying26 rfl szD ?_; simp only [Act.put, List.setIfInBounds_toArray, List.set_cons_succ, List.set_cons_zero]; go_big_quiet_on) | (refine Whole.quiet_load _ 26 rfl _ _ _ rfl hy6 Try.underlying26 rfl szD ?_; simp only [Act.put, List.setIfInBounds_toArray, List.set_cons_succ, List.set_cons_zero]; go_big_quiet_on) | (refine Whole.quiet_bin .eql _ _ 26 26 rfl (.bool true) _ _ rfl rfl (by kernel_rfl) hEq ?_; simp only [Act.put, List.setIfInBounds_toArray, List.set_cons_succ, List.set_cons_zero]; go_big_quiet_on) | (go_big_quiet_op; go_big_quiet_on)))
    refine wpQuiet_nil ?_
    rintro _ ⟨pq, rfl⟩
    have hbb := grows hL6.b pq.below
    clear hL6 hy6 hEq d5 HU HW
    go_wp2
    go_ret
    exact ⟨rfl, hbb⟩
  · rw [hd] at d5
    have hfd : decide ((N : Int) < (u : Int) + (s.size : Int)) = false := decide_eq_false (by omega)
    have hne : (er == 9) = false := by rw [beq_eq_false_iff_ne]; exact her
    go_upto_region 11 with fail
    refine Whole.regionL ?_
    repeat (first | go_big_quiet_skip | (go_big_quiet_want; first | (refine Whole.quiet_load _ 26 rfl _ _ _ rfl hL6.d Try.underlying26 rfl szD ?_; simp only [Act.put, List.setIfInBounds_toArray, List.set_cons_succ, List.set_cons_zero]; go_big_quiet_on) | (go_big_quiet_op; go_big_quiet_on)))
    refine wpQuiet_nil ?_
    rintro _ ⟨pq, rfl⟩
    have hbb := grows hL6.b pq.below
    clear hL6 hy6 hEq d5 HU HW
    go_wp2
    go_ret
    exact ⟨rfl, hbb⟩

theorem walk (v : Value) (ls : List Ac) (hok : ∀ t ∈ ls, t.ok) (hst : ∀ t ∈ ls, t.2.2.1.size ≤ 140737488351232) (n : Int) (h0 : 0 ≤ n) (h1 : n ≤ 255) (s : ByteArray) (hs : s.size ≤ 140737488351232) (w : World) (hv : ARow w v ls) :
    Calls Try.prog 5 #[v, .int .u8 n, .string s] w fun e w' => e = .returned (.bool true) ∧ Below w.heap.size w w' := by
  obtain ⟨N, rfl⟩ := Int.eq_ofNat_of_zero_le h0
  exact walk0 run_any v ls hok (fun t ht => Nat.le_trans (hst t ht) (by decide)) N (by omega) s (by omega) w hv

set_option maxRecDepth 100000 in
theorem lifted (os : Os) (started : os.Started) (H : Type) (enc : TypeId × Value → H) :
    ReturnsInHanded {} Try.checked os 5 .any (Rows.diskRoomSpec.pre6 enc Try.prog Try.f5 Rows.diskRoomRow.domain false) (Rows.diskRoomSpec.post enc Try.prog Try.f5 false true false false) := by
  refine returnsInHanded_of_change_sized (C := Try.checked) Ends.own started (by kernel_rfl) Try.func5
    (ChangeSpec.witness6 (enc := enc) (C := Try.checked) false ⟨#[], #[.slice none 0 0, .int .u8 0, .string ⟨#[]⟩], []⟩ 8 (by kernel_rfl) (by kernel_rfl) (by kernel_rfl) (by kernel_rfl)) ?_
  intro W base args ds gs before hval0 hW _ hsz0 _
  have hval : ∀ (j : Nat) t v, Try.f5.params[j]? = some t → args[j]? = some v → Value.okWide Try.prog W .any base t v := hval0
  have hsz : (DataW.weightsEach Try.prog (Try.f5.params.toList ++ Rows.diskRoomSpec.plain.varTypes Try.prog) (ds ++ gs)).all (· ≤ reachBytes) = true := hsz0
  have hW' := hW
  obtain ⟨p, q, hA0, hV, rfl, hfz, hnd⟩ := hW
  have hA : DataW.TrodAll enc Try.prog W 0 (fun _ => true) true Try.f5.params.toList args.toList ds p := hA0
  rw [Try.params5] at hA hval hsz
  obtain ⟨v0, vs0, d0, ds0, p0, q0, hargs, rfl, rfl, h0, r0⟩ := trodAll_cons hA
  obtain ⟨v1, vs1, d1, ds1, p1, q1, rfl, rfl, rfl, h1, r1⟩ := trodAll_cons r0
  obtain ⟨v2, vs2, d2, ds2, p2, q2, rfl, rfl, rfl, h2, r2⟩ := trodAll_cons r1
  obtain ⟨rfl, rfl, rfl⟩ := trodAll_nil r2
  obtain rfl : args = #[v0, v1, v2] := by cases args; simp_all
  obtain ⟨rfl, rfl⟩ := trodVars_none hV
  obtain ⟨a0, w0, g0, k0⟩ := Disk.open_acts (e := 73) (f0 := (Try.prog.fieldsOf 73)[0]!) (f1 := (Try.prog.fieldsOf 73)[1]!) (f2 := (Try.prog.fieldsOf 73)[2]!) (f3 := (Try.prog.fieldsOf 73)[3]!) Try.underlying55 (by kernel_rfl) (by kernel_rfl) (by kernel_rfl) (by kernel_rfl) (by kernel_rfl) (by kernel_rfl) (by kernel_rfl) (by kernel_rfl) (by kernel_rfl) (by kernel_rfl) (by kernel_rfl) (by kernel_rfl) (by kernel_rfl) (by kernel_rfl) (hval 0 55 v0 rfl rfl) h0
  have q0 : ∀ n ∈ d0.weights Try.prog 55, n ≤ 140737488351232 := fun n hn => of_decide_eq_true (List.all_eq_true.1 hsz n (DataW.weights_mem_each (j := 0) rfl rfl n hn))
  have b0 := g0.reach (P := Try.prog) (f0 := (Try.prog.fieldsOf 73)[0]!) (f1 := (Try.prog.fieldsOf 73)[1]!) (f2 := (Try.prog.fieldsOf 73)[2]!) (f3 := (Try.prog.fieldsOf 73)[3]!) Try.underlying55 (by kernel_rfl) (by kernel_rfl) q0
  obtain ⟨a1, rfl, rfl, rfl, w1⟩ := open_int Try.underlying5 (hval 1 5 v1 rfl rfl) h1
  obtain ⟨a2, rfl, rfl, rfl, w2⟩ := Go.ChangeMaps.open_string Try.underlying9 (hval 2 9 v2 rfl rfl) h2
  have b1 := bounds_u8 w1
  have b2 : a2.size ≤ 140737488351232 := by have := sized_string hsz (j := 2) rfl rfl; rw [Array.length_toList] at this; exact this
  refine (walk v0 a0 k0 b0.2 a1 b1.1 b1.2 a2 b2 W w0).mono fun e W' ⟨he, hb⟩ => ?_
  subst he
  exact ⟨_, rfl, Ends.law_end Ends.laidOut (by rw [Try.params5]; decide +kernel) rfl (by kernel_rfl) Try.underlying4 hW' rfl hb⟩

/-- The statement. -/
theorem proved : Rows.DiskRoomSaid :=
  OpenClaim.holds_of_wide 5 Try.f5 rfl rfl rfl rfl rfl rfl rfl ⟨rfl, rfl, rfl, rfl, rfl⟩ rfl rfl rfl rfl rfl (by kernel_rfl) Try.func5 (by kernel_rfl)
    (of_decide_eq_true (by kernel_rfl)) (by unfold Func.isWrapper; first | (rw [if_pos (by decide +kernel)]; kernel_rfl) | (rw [if_neg (by decide +kernel)]; exact ⟨rfl, rfl⟩))
    (fun os started H enc _ => lifted os started H enc)
end Go.Proofs.Ytoomanlonhnleaa.diskRoom
