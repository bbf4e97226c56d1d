/-
  demesnelaw11.SpecTorn, for every input: of what is put of a job no beginning is got (the law answers true, and its arguments read as before).
  Conditions: none beyond the row's own (the reach; what the row lists, tied by the card).
-/
import Derived.Test.YtbilkeadhflibaaGreatDoorJL4
import Derived.Test.YtbilkeadhflibaaGreatDoorTie
import Derived.Test.YtbilkeadhflibaaGreatDoorCards
import Derived.LaidMore
import Derived.Lay
import Derived.PlainAid
import Derived.SevenTiedAt
import Derived.Stop.Joined
namespace Go.Proofs.YtbilkeadhflibaaGreatDoor.specTorn
open Go.RowKit Go.Proofs.YtbilkeadhflibaaGreatDoor.Wire Go.Proofs.YtbilkeadhflibaaGreatDoor.Vec Go.Proofs.YtbilkeadhflibaaGreatDoor.Sel Go.Proofs.YtbilkeadhflibaaGreatDoor.Texts Go.Proofs.YtbilkeadhflibaaGreatDoor.Args Go.Proofs.YtbilkeadhflibaaGreatDoor.Job

set_option maxHeartbeats 4000000 in
set_option maxRecDepth 100000 in
theorem walk (lv : Value) (lb : List UInt8) (cut : Int) (h1 : 0 ≤ cut) (h2 : cut ≤ 65535) (w : World) (hR : Roots w) (hl : Bytes w lv lb) :
    Calls Tryz.prog 8 #[lv, .int .u16 cut] w fun e w' => e = .returned (.bool true) ∧ Below w.heap.size w w' := by
  have HX := Lib.hid (examples_any w hR)
  have HM : Hid (∀ W, Below w.heap.size w W → Calls Tryz.prog 26 #[lv] W fun e w' => (∃ u, e = .returned (valJ (madeJ lb) u) ∧ TRow w' u (terms (madeJ lb))) ∧ Below W.heap.size W w') := Lib.hid fun W h => made_any lv lb W (hl.below h)
  have hc := made_check lb
  have hf := made_fair lb
  obtain ⟨x, hx⟩ : ∃ x, x = madeJ lb := ⟨_, rfl⟩
  rw [← hx] at HM hc hf
  have hp0 := putJ_pos hc
  have hp1 := putJ_small hf hc
  obtain ⟨P, hP⟩ : ∃ P, P = putJ x := ⟨_, rfl⟩
  have HPu : Hid (∀ u W, TRow W u (terms x) → Calls Tryz.prog 22 #[valJ x u] W fun e w' => e = .returned (.string P) ∧ Below W.heap.size W w') := Lib.hid fun u W h => by rw [hP]; exact put_jb x u W hf h
  obtain ⟨c, rfl⟩ := Int.eq_ofNat_of_zero_le h1
  obtain ⟨r, hr⟩ : ∃ r, r = c % P.size := ⟨_, rfl⟩
  have hz0 : 0 < P.size := by rw [hP]; exact hp0
  have hrl : r < P.size := by rw [hr]; exact Nat.mod_lt _ hz0
  obtain ⟨n, hn⟩ : ∃ n, n = P.size - 1 - r := ⟨_, rfl⟩
  have hz2 : P.size ≤ 1400 := by rw [hP]; exact hp1
  have hg1 : getJ (P.extract 0 n) 0 = none := by
    refine getJ_torn (x := x) (r := P.data.toList.drop n) hc hf ?_ ?_
    · rw [← hP, ← Lib.toList_data (P.extract 0 n)]
      have h := ext_list P 0 n
      rw [Nat.zero_add, List.drop_zero] at h
      rw [h, List.take_append_drop]
    · intro h
      have h3 := congrArg List.length h
      rw [List.length_drop, size_list, List.length_nil] at h3
      omega
  have hg2 := getJ_end P
  have HG1 : Hid (∀ W, Below w.heap.size w W → Calls Tryz.prog 13 #[.string (P.extract 0 n), .int .i64 0] W (TellsJG none W)) := Lib.hid fun W h => by rw [← hg1]; exact get_jb _ (by rw [ByteArray.size_extract]; omega) 0 W (hR.err.below h)
  have HG2 : Hid (∀ W, Below w.heap.size w W → Calls Tryz.prog 13 #[.string P, .int .i64 P.size] W (TellsJG none W)) := Lib.hid fun W h => by rw [← hg2]; exact get_jb _ (by omega) _ W (hR.err.below h)
  have hne : (P.toList == ([] : List UInt8)) = false := by
    rw [beq_eq_false_iff_ne]
    intro h
    rw [Lib.toList_data] at h
    have h3 := congrArg List.length h
    rw [size_list, List.length_nil] at h3
    omega
  have ht : (c : Int).tmod (P.size : Int) = (r : Int) := by rw [Int.tmod_eq_emod_of_nonneg (by omega)]; omega
  have he : (c : Int) % (P.size : Int) = (r : Int) := by omega
  have hzz : ((P.size : Int) == 0) = false := by rw [beq_eq_false_iff_ne]; omega
  have hzn : ¬ (P.size : Int) = 0 := by omega
  have hzn' : ¬ P.size = 0 := by omega
  have hwc : IntKind.i64.wrap (c : Int) = (c : Int) := by rw [IntKind.wrap_i64]; omega
  have hw1 : IntKind.i64.wrap ((P.size : Int) - 1) = (P.size : Int) - 1 := by rw [IntKind.wrap_i64]; omega
  have hwr : IntKind.i64.wrap (r : Int) = (r : Int) := by rw [IntKind.wrap_i64]; omega
  have hw2 : IntKind.i64.wrap ((P.size : Int) - 1 - (r : Int)) = (n : Int) := by rw [IntKind.wrap_i64]; omega
  have hn0 : (0 : Int) ≤ (n : Int) := by omega
  have hnP : (n : Int) ≤ (P.size : Int) := by omega
  clear hx hp0 hp1 hP hr hn hg1 hg2 hc hf hR hl
  unfold TellsJG at HG1 HG2
  unfold valJ at HM HPu
  go_enter Tryz.func8, Tryz.ntmps8
  go_wp2_with fail
  with_reducible refine HX.out.mono ?_
  rintro e w1 ⟨rfl, b1⟩
  go_wp2_with fail
  with_reducible refine (HM.out _ b1).mono ?_
  rintro e w2 ⟨⟨u, rfl, hu⟩, k2⟩
  have b2 := grows b1 k2
  have HU := Lib.hid hu
  clear hu k2 b1
  go_wp2_with fail
  with_reducible refine (HPu.out _ _ HU.out).mono ?_
  rintro e w3 ⟨rfl, k3⟩
  have b3 := grows b2 k3
  clear k3 b2
  go_wp2_with fail
  with_reducible refine (HG1.out _ b3).mono ?_
  rintro e w4 ⟨rfl, k4⟩
  have b4 := grows b3 k4
  clear k4 b3
  unfold zero9 val9
  go_wp2_with fail
  have b5 := grows b4 (grew w4 (box9 ⟨#[]⟩ 0 0 0 0 0 0 0 (.slice none 0 0)))
  unfold box9 at b5
  with_reducible refine (HG2.out _ b5).mono ?_
  rintro e w6 ⟨rfl, k6⟩
  have b6 := grows b5 k6
  clear k6 b5
  unfold zero9 val9
  go_wp2
  go_ret
  exact ⟨rfl, grows b6 (grew _ _)⟩
open Go.ChangeShapes Go.WideShapes Go.ChangeAt
set_option maxRecDepth 100000 in
theorem lifted (os : Os) (started : os.Started) (H : Type) (enc : TypeId × Value → H) :
    ReturnsInHanded {} Tryz.checked os 8 .any (fun w args => (Rows.specTornSpec.pre enc Tryz.prog Tryz.f8 Rows.specTornRow.domain false w args ∧ laidMetH Tryz.prog Rows.specTornRow.laid w) ∧ sizedMet enc Tryz.prog Tryz.f8 (OpenSpec.ofChange Rows.specTornSpec) false w args)
      (Rows.specTornSpec.post enc Tryz.prog Tryz.f8 false true false false) := by
  refine returnsInHanded_of_change_and (C := Tryz.checked) (X := fun w _ => laidMetH Tryz.prog Rows.specTornRow.laid w) (fun _ _ _ hh h => h.of_heap hh) Ends.own started (by kernel_rfl) Tryz.func8
    (ChangeSpec.witness_shaped (enc := enc) (C := Tryz.checked) (os := os) (X := fun w _ => laidMetH Tryz.prog Rows.specTornRow.laid w) false (World.laidAll Tryz.prog os Rows.specTornRow.laid) #[.slice none 0 0, .int .u16 0] 8 (World.laidAll_os _ _ _)
      (World.shaped_of_ZipB (by kernel_rfl) (by kernel_rfl)) (by kernel_rfl) (by kernel_rfl) (by kernel_rfl)
      (by rw [MakeChecks.laidMetH_plain _ _ _ (by kernel_rfl)]; exact laidMet_laidAll _ (by kernel_rfl) (by kernel_rfl))) ?_
  intro W base args ds gs before hval0 hW _ _ hL _
  have hval : ∀ (j : Nat) t v, Tryz.f8.params[j]? = some t → args[j]? = some v → Value.okWide Tryz.prog W .any base t v := hval0
  have hW' := hW
  obtain ⟨p, q, hA0, hV, rfl, hfz, hnd⟩ := hW
  have hA : DataW.TrodAll enc Tryz.prog W 0 (fun _ => true) true Tryz.f8.params.toList args.toList ds p := hA0
  rw [Tryz.params8] at hA hval
  obtain ⟨v0, vs0, d0, ds0, p0, q0, hargs, rfl, rfl, h0, r0⟩ := trodAll_cons hA
  obtain ⟨v1, vs1, d1, ds1, p1, q1, rfl, rfl, rfl, h1, r1⟩ := trodAll_cons r0
  obtain ⟨rfl, rfl, rfl⟩ := trodAll_nil r1
  obtain rfl : args = #[v0, v1] := by cases args; simp_all
  obtain ⟨rfl, rfl⟩ := trodVars_none hV
  obtain ⟨a0, w0⟩ := Args.open_bytes Tryz.underlying56 Tryz.underlying5 (by kernel_rfl) (hval 0 56 v0 rfl rfl) h0
  obtain ⟨a1, rfl, rfl, rfl, w1⟩ := open_int Tryz.underlying65 (hval 1 65 v1 rfl rfl) h1
  have b1 := bounds_u16 w1
  refine (walk v0 a0 a1 b1.1 b1.2 W (Job.roots_met hL) w0).mono fun e W' ⟨he, hb⟩ => ?_
  subst he
  exact ⟨_, rfl, Ends.law_end Ends.laidOut (by rw [Tryz.params8]; decide +kernel) rfl (by kernel_rfl) Tryz.underlying4 hW' rfl hb⟩

theorem row : Rows.SpecTornSaid :=
  OpenClaim.holds_of_wide 8 Tryz.f8 rfl rfl rfl rfl rfl rfl rfl ⟨rfl, rfl, rfl, rfl, rfl⟩ rfl rfl rfl rfl rfl (by kernel_rfl) Tryz.func8 (by kernel_rfl)
    (of_decide_eq_true (by kernel_rfl)) (by unfold Func.isWrapper; first | (rw [if_pos (by decide +kernel)]; kernel_rfl) | (rw [if_neg (by decide +kernel)]; exact ⟨rfl, rfl⟩))
    (fun os started H enc _ => lifted os started H enc)

/-- The statement: the tied card. -/
theorem proved : Rows.SpecTornCardSaid :=
  Claim7.holds_tied_plain_at .later [] [.data, .data, .data, .data, .sentinel, .sentinel, .sentinel, .pinned] true Rows.specTornCard.stood.harness true row (fun _ h => by cases h) (by kernel_rfl) (fun _ h => by cases h) specTorn_row_tie rfl ⟨rfl, rfl⟩ (by kernel_rfl) rfl
    (fun f fn hf hfn => by
      obtain rfl : f = 8 := Option.some.inj ((show Tryz.prog.funcNamed "demesne/demesnelaw11.SpecTorn" = some 8 by kernel_rfl).symm.trans hf) |>.symm
      obtain rfl : fn = Tryz.f8 := (Option.some.inj (Tryz.func8.symm.trans hfn)).symm
      exact ⟨by kernel_rfl, fun j t ht => by
        rw [Tryz.params8] at ht
        have hm : t ∈ [56, 65] := by simpa using Array.mem_of_getElem? ht
        have hall : ([56, 65].all fun u => !Tryz.prog.wantsStandIn u) = true := by kernel_rfl
        exact (show Tryz.prog.wantsStandIn t = false by simpa using List.all_eq_true.1 hall t hm)⟩)
    (by kernel_rfl)
end Go.Proofs.YtbilkeadhflibaaGreatDoor.specTorn
