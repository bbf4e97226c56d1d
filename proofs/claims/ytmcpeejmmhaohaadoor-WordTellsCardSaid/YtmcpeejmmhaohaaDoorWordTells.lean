/- Proved: demesnelaw02.WordTells answers true for every two texts, and leaves them as they were. Its row lists two tables of Go's library (utf8.first, utf8.acceptRanges) as they are laid; the call reads neither. -/
import Derived.Test.YtmcpeejmmhaohaaDoorRefUps
import Derived.Test.YtmcpeejmmhaohaaDoorEnd
import Derived.Test.YtmcpeejmmhaohaaDoorTie
import Derived.Test.YtmcpeejmmhaohaaDoorCards
import Derived.LaidMore
import Derived.Lay
import Derived.SevenTiedAt
import Derived.Stop.Joined
namespace Go.Proofs.YtmcpeejmmhaohaaDoor.wordTells
open Go.RowKit Go.Proofs.YtmcpeejmmhaohaaDoor.Word

set_option maxRecDepth 100000 in
set_option maxHeartbeats 8000000 in
theorem walk (a : ByteArray) (ha : a.size ≤ 140737488351232) (b : ByteArray) (hb : b.size ≤ 140737488351232) (w : World) :
    Calls Tryd.prog 3 #[.string a, .string b] w fun e w' => e = .returned (.bool true) ∧ Below w.heap.size w w' := by
  obtain ⟨r, hr⟩ : ∃ r, r = right a.data.toList := ⟨_, rfl⟩
  obtain ⟨c, hc⟩ : ∃ c, c = count a.data.toList := ⟨_, rfl⟩
  obtain ⟨ps, hps⟩ : ∃ ps, ps = parts a.data.toList := ⟨_, rfl⟩
  obtain ⟨us, hus⟩ : ∃ us, us = ups a.data.toList := ⟨_, rfl⟩
  obtain ⟨u, hu⟩ : ∃ u, u = under a.data.toList b.data.toList := ⟨_, rfl⟩
  have hpl : ps.length ≤ 4611686018427387904 := by rw [hps]; have := parts_le a.data.toList; omega
  have hul : us.length ≤ 4611686018427387904 := by rw [hus, ups_length]; have := parts_le a.data.toList; omega
  have H1 := Lib.hid (right_any a)
  have H1' := Lib.hid (refRight_any a (by omega))
  have H2 := Lib.hid (count_any a (by omega))
  have H2' := Lib.hid (refCount_any a (by omega))
  have H3 := Lib.hid (parts_any a (by omega))
  have H3' := Lib.hid (refParts_any a (by omega))
  have H4 := Lib.hid (ups_any a (by omega))
  have H4' := Lib.hid (refUps_any a (by omega))
  have H5 := Lib.hid (under_any a b (by omega))
  have H5' := Lib.hid (refUnder_any a b (by omega))
  rw [← hr] at H1 H1'
  rw [← hc] at H2 H2'
  rw [← hps] at H3 H3'
  rw [← hus] at H4 H4'
  rw [← hu] at H5 H5'
  clear hr hc hps hus hu
  go_enter Tryd.func3, Tryd.ntmps3
  go_wp2_with fail
  refine (examples_any _).mono ?_
  rintro e w1 ⟨rfl, hb1⟩
  go_wp2_with fail
  (with_reducible refine (H1.out _).mono ?_)
  rintro e w2 ⟨rfl, hb2⟩
  have hw := grows hb1 hb2
  clear hb1 hb2
  go_wp2_with fail
  (with_reducible refine (H1'.out _).mono ?_)
  rintro e w3 ⟨rfl, hb3⟩
  have hw' := grows hw hb3
  clear hw hb3
  go_wp2_with fail
  (with_reducible refine (H2.out _).mono ?_)
  rintro e w4 ⟨rfl, hb4⟩
  have hw := grows hw' hb4
  clear hw' hb4
  go_wp2_with fail
  (with_reducible refine (H2'.out _).mono ?_)
  rintro e w5 ⟨rfl, rfl⟩
  go_wp2_with fail
  (with_reducible refine (H3.out _).mono ?_)
  rintro e w6 ⟨v6, rfl, hv6, hb6⟩
  have hw' := grows hw hb6
  clear hw hb6
  have HV6 := Lib.hid hv6
  clear hv6
  go_wp2_with fail
  (with_reducible refine (H3'.out _).mono ?_)
  rintro e w7 ⟨v7, rfl, hv7, hb7⟩
  have hw := grows hw' hb7
  have HV7 := Lib.hid hv7
  have HV6' := Lib.hid (HV6.out.below hb7)
  clear hw' hb7 hv7 HV6
  go_wp2_with fail
  (with_reducible refine (same_yes _ _ _ _ HV6'.out HV7.out hpl).mono ?_)
  rintro e w8 ⟨rfl, hb8⟩
  have hw' := grows hw hb8
  clear hw hb8 HV6' HV7
  go_wp2_with fail
  (with_reducible refine (H4.out _).mono ?_)
  rintro e w9 ⟨v9, rfl, hv9, hb9⟩
  have hw := grows hw' hb9
  clear hw' hb9
  have HV9 := Lib.hid hv9
  clear hv9
  go_wp2_with fail
  (with_reducible refine (H4'.out _).mono ?_)
  rintro e w10 ⟨v10, rfl, hv10, hb10⟩
  have hw' := grows hw hb10
  have HV10 := Lib.hid hv10
  have HV9' := Lib.hid (HV9.out.below hb10)
  clear hw hb10 hv10 HV9
  go_wp2_with fail
  (with_reducible refine (same_yes _ _ _ _ HV9'.out HV10.out hul).mono ?_)
  rintro e w11 ⟨rfl, hb11⟩
  have hw := grows hw' hb11
  clear hw' hb11 HV9' HV10
  go_wp2_with fail
  (with_reducible refine (H5.out _).mono ?_)
  rintro e w12 ⟨rfl, hb12⟩
  have hw' := grows hw hb12
  clear hw hb12
  go_wp2_with fail
  (with_reducible refine (H5'.out _).mono ?_)
  rintro e w13 ⟨rfl, hb13⟩
  have hw := grows hw' hb13
  clear hw' hb13
  go_wp2
  go_ret
  exact ⟨rfl, hw⟩

open Go.ChangeShapes Go.WideShapes Go.ChangeAt
set_option maxRecDepth 100000 in
theorem lifted (os : Os) (started : os.Started) (H : Type) (enc : TypeId × Value → H) :
    ReturnsInHanded {} Tryd.checked os 3 .any (fun w args => (Rows.wordTellsSpec.pre enc Tryd.prog Tryd.f3 Rows.wordTellsRow.domain false w args ∧ laidMetH Tryd.prog Rows.wordTellsRow.laid w) ∧ sizedMet enc Tryd.prog Tryd.f3 (OpenSpec.ofChange Rows.wordTellsSpec) false w args)
      (Rows.wordTellsSpec.post enc Tryd.prog Tryd.f3 false true false false) := by
  refine returnsInHanded_of_change_and (C := Tryd.checked) (X := fun w _ => laidMetH Tryd.prog Rows.wordTellsRow.laid w) (fun _ _ _ hh h => h.of_heap hh) Ends.own started (by kernel_rfl) Tryd.func3
    (ChangeSpec.witness_shaped (enc := enc) (C := Tryd.checked) (os := os) (X := fun w _ => laidMetH Tryd.prog Rows.wordTellsRow.laid w) false (World.laidAll Tryd.prog os Rows.wordTellsRow.laid) #[.string ⟨#[]⟩, .string ⟨#[]⟩] 8 (World.laidAll_os _ _ _)
      (World.shaped_of_ZipB (by kernel_rfl) (by kernel_rfl)) (by kernel_rfl) (by kernel_rfl) (by kernel_rfl)
      (by rw [MakeChecks.laidMetH_plain _ _ _ (by kernel_rfl)]; exact laidMet_laidAll _ (by kernel_rfl) (by kernel_rfl))) ?_
  intro W base args ds gs before hval0 hW _ hsz0 _ _
  have hval : ∀ (j : Nat) t v, Tryd.f3.params[j]? = some t → args[j]? = some v → Value.okWide Tryd.prog W .any base t v := hval0
  have hsz : (DataW.weightsEach Tryd.prog (Tryd.f3.params.toList ++ Rows.wordTellsSpec.plain.varTypes Tryd.prog) (ds ++ gs)).all (· ≤ reachBytes) = true := hsz0
  have hW' := hW
  obtain ⟨p, q, hA0, hV, rfl, hfz, hnd⟩ := hW
  have hA : DataW.TrodAll enc Tryd.prog W 0 (fun _ => true) true Tryd.f3.params.toList args.toList ds p := hA0
  rw [Tryd.params3] at hA hval hsz
  obtain ⟨v0, vs0, d0, ds0, p0, q0, hargs, rfl, rfl, h0, r0⟩ := trodAll_cons hA
  obtain ⟨v1, vs1, d1, ds1, p1, q1, rfl, rfl, rfl, h1, r1⟩ := trodAll_cons r0
  obtain ⟨rfl, rfl, rfl⟩ := trodAll_nil r1
  obtain rfl : args = #[v0, v1] := by cases args; simp_all
  obtain ⟨rfl, rfl⟩ := trodVars_none hV
  obtain ⟨a0, rfl, rfl, rfl, w0⟩ := Go.ChangeMaps.open_string Tryd.underlying9 (hval 0 9 v0 rfl rfl) h0
  obtain ⟨a1, rfl, rfl, rfl, w1⟩ := Go.ChangeMaps.open_string Tryd.underlying9 (hval 1 9 v1 rfl rfl) h1
  have b0 : a0.size ≤ 140737488351232 := by have := sized_string hsz (j := 0) rfl rfl; rw [Array.length_toList] at this; exact this
  have b1 : a1.size ≤ 140737488351232 := by have := sized_string hsz (j := 1) rfl rfl; rw [Array.length_toList] at this; exact this
  refine (walk a0 b0 a1 b1 W).mono fun e W' ⟨he, hb⟩ => ?_
  subst he
  exact ⟨_, rfl, Ends.law_end Ends.laidOut (by rw [Tryd.params3]; decide +kernel) rfl (by kernel_rfl) Tryd.underlying4 hW' rfl hb⟩

theorem row : Rows.WordTellsSaid :=
  OpenClaim.holds_of_wide 3 Tryd.f3 rfl rfl rfl rfl rfl rfl rfl ⟨rfl, rfl, rfl, rfl, rfl⟩ rfl rfl rfl rfl rfl (by kernel_rfl) Tryd.func3 (by kernel_rfl)
    (of_decide_eq_true (by kernel_rfl)) (by unfold Func.isWrapper; first | (rw [if_pos (by decide +kernel)]; kernel_rfl) | (rw [if_neg (by decide +kernel)]; exact ⟨rfl, rfl⟩))
    (fun os started H enc _ => lifted os started H enc)

/-- The statement: the tied card. -/
theorem proved : Rows.WordTellsCardSaid :=
  Claim7.holds_tied_plain_at .later [] [.data, .pinned] true Rows.wordTellsCard.stood.harness false row (fun _ h => by cases h) (by kernel_rfl) (fun _ h => by cases h) wordTells_row_tie rfl ⟨rfl, rfl⟩ (by kernel_rfl) rfl
    (fun f fn hf hfn => by
      obtain rfl : f = 3 := Option.some.inj ((show Tryd.prog.funcNamed "demesne/demesnelaw02.WordTells" = some 3 by kernel_rfl).symm.trans hf) |>.symm
      obtain rfl : fn = Tryd.f3 := (Option.some.inj (Tryd.func3.symm.trans hfn)).symm
      exact ⟨by kernel_rfl, fun j t ht => by
        rw [Tryd.params3] at ht
        have hm : t ∈ [9, 9] := by simpa using Array.mem_of_getElem? ht
        have hall : ([9, 9].all fun u => !Tryd.prog.wantsStandIn u) = true := by kernel_rfl
        exact (show Tryd.prog.wantsStandIn t = false by simpa using List.all_eq_true.1 hall t hm)⟩)
    (by kernel_rfl)
end Go.Proofs.YtmcpeejmmhaohaaDoor.wordTells
