/-
  demesnelaw06.ShaOnce, for every input: what is parsed is shown as it was written; with a digit more, a great letter, or a blank, it is none (the law answers true, and its arguments read as before).
  Conditions: none beyond the row's own (the reach; what the row lists, tied by the card).
-/
import Derived.Test.YthknghbopfmlpaaDoorHExamples
import Derived.Test.YthknghbopfmlpaaDoorHRoots
import Derived.Test.YthknghbopfmlpaaDoorEnd
import Derived.Test.YthknghbopfmlpaaDoorTie
import Derived.Test.YthknghbopfmlpaaDoorCards
import Derived.LaidMore
import Derived.Lay
import Derived.PlainAid
import Derived.SevenTiedAt
import Derived.Stop.Joined
namespace Go.Proofs.YthknghbopfmlpaaDoor.shaOnce
open Go.RowKit Go.Proofs.YthknghbopfmlpaaDoor.Sha

theorem tail_list (b : ByteArray) (c : List UInt8) : (str (hexL b.data.toList) ++ ⟨c.toArray⟩ : ByteArray).data.toList = hexL b.data.toList ++ c := by simp [str]
theorem tail_size (b : ByteArray) (c : List UInt8) : (str (hexL b.data.toList) ++ ⟨c.toArray⟩ : ByteArray).size = 2 * b.size + c.length := by
  rw [← size_list, tail_list, List.length_append, hexL_len, size_list]
theorem tail_no (b : ByteArray) (hb : b.size ≤ 140737488351232) (c : List UInt8) (hc : c.length ≤ 2) (hno : ∀ x, hexL x ≠ hexL b.data.toList ++ c) (w : World) :
    Calls Tryd.prog 9 #[.string (str (hexL b.data.toList) ++ ⟨c.toArray⟩)] w fun e w' => e = .returned (.tuple #[.string ⟨#[]⟩, .bool false]) ∧ Below w.heap.size w w' :=
  parse_no _ (by rw [tail_size]; omega) (by rw [tail_list]; exact hno) w

set_option maxHeartbeats 4000000 in
set_option maxRecDepth 100000 in
theorem walk (t : ByteArray) (ht : t.size ≤ 140737488351232) (b : ByteArray) (hb : b.size ≤ 140737488351232) (w : World) (hR : Roots w) :
    Calls Tryd.prog 6 #[.string t, .string b] w fun e w' => e = .returned (.bool true) ∧ Below w.heap.size w w' := by
  have HX := Lib.hid (examples_any w hR)
  have HH : Hid (∀ w, Calls Tryd.prog 13 #[.string b] w fun e w' => e = .returned (.string (str (hexL b.data.toList))) ∧ Below w.heap.size w w') := Lib.hid fun w => hex_any b (by omega) w
  have hl : (hexL b.data.toList).length = 2 * b.data.toList.length := hexL_len _
  have H1 := Lib.hid (tail_no b hb [48] (by simp) (no_odd (by simp; omega)))
  have H2 := Lib.hid (tail_no b hb [48, 65] (by simp) (no_low (k := b.data.toList.length) (c := 65) (by rw [List.getElem?_append_right (by omega), hl]; simp) (none_dig 65 (by decide +kernel))))
  have H3 := Lib.hid (tail_no b hb [32, 48] (by simp) (no_high (k := b.data.toList.length) (c := 32) (by rw [List.getElem?_append_right (by omega), hl]; simp) (none_dig 32 (by decide +kernel))))
  have H4 := Lib.hid (tail_no b hb [48, 103] (by simp) (no_low (k := b.data.toList.length) (c := 103) (by rw [List.getElem?_append_right (by omega), hl]; simp) (none_dig 103 (by decide +kernel))))
  have hsz : (str (hexL b.data.toList)).size ≤ 281474976702464 := by rw [str_size, hl, size_list]; omega
  obtain ⟨h, hh⟩ : ∃ h, str (hexL b.data.toList) = h := ⟨_, rfl⟩
  rw [hh] at H1 H2 H3 H4 HH hsz
  clear hl hh hb hR
  by_cases hy : ∃ x, hexL x = t.data.toList
  · obtain ⟨x, hx⟩ := hy
    have HP : Hid (∀ w, Calls Tryd.prog 9 #[.string t] w fun e w' => e = .returned (.tuple #[.string (str x), .bool true]) ∧ Below w.heap.size w w') := Lib.hid fun w => parse_yes t (by omega) x hx w
    have HS : Hid (∀ w, Calls Tryd.prog 13 #[.string (str x)] w fun e w' => e = .returned (.string t) ∧ Below w.heap.size w w') := Lib.hid fun w => hexed _ _ (by rw [str_size]; have := congrArg List.length hx; rw [hexL_len, size_list] at this; omega) (by rw [str_toList]; exact hx) w
    clear hx
    go_enter Tryd.func6, Tryd.ntmps6
    go_wp2_with fail
    with_reducible refine HX.out.mono ?_
    rintro e w1 ⟨rfl, b1⟩
    go_wp2_with fail
    with_reducible refine (HP.out _).mono ?_
    rintro e w2 ⟨rfl, b2⟩
    go_wp2_with fail
    with_reducible refine (HS.out _).mono ?_
    rintro e w3 ⟨rfl, b3⟩
    go_wp2_with fail
    with_reducible refine (HH.out _).mono ?_
    rintro e w4 ⟨rfl, b4⟩
    go_wp2_with fail
    with_reducible refine (H1.out _).mono ?_
    rintro e w5 ⟨rfl, b5⟩
    go_wp2_with fail
    with_reducible refine (H2.out _).mono ?_
    rintro e w6 ⟨rfl, b6⟩
    go_wp2_with fail
    with_reducible refine (H3.out _).mono ?_
    rintro e w7 ⟨rfl, b7⟩
    go_wp2_with fail
    with_reducible refine (H4.out _).mono ?_
    rintro e w8 ⟨rfl, b8⟩
    go_wp2
    go_ret
    exact ⟨rfl, grows (grows (grows (grows (grows (grows (grows b1 b2) b3) b4) b5) b6) b7) b8⟩
  · have HP : Hid (∀ w, Calls Tryd.prog 9 #[.string t] w fun e w' => e = .returned (.tuple #[.string ⟨#[]⟩, .bool false]) ∧ Below w.heap.size w w') := Lib.hid fun w => parse_no t (by omega) (fun x hx => hy ⟨x, hx⟩) w
    clear hy
    go_enter Tryd.func6, Tryd.ntmps6
    go_wp2_with fail
    with_reducible refine HX.out.mono ?_
    rintro e w1 ⟨rfl, b1⟩
    go_wp2_with fail
    with_reducible refine (HP.out _).mono ?_
    rintro e w2 ⟨rfl, b2⟩
    go_wp2_with fail
    with_reducible refine (HH.out _).mono ?_
    rintro e w4 ⟨rfl, b4⟩
    go_wp2_with fail
    with_reducible refine (H1.out _).mono ?_
    rintro e w5 ⟨rfl, b5⟩
    go_wp2_with fail
    with_reducible refine (H2.out _).mono ?_
    rintro e w6 ⟨rfl, b6⟩
    go_wp2_with fail
    with_reducible refine (H3.out _).mono ?_
    rintro e w7 ⟨rfl, b7⟩
    go_wp2_with fail
    with_reducible refine (H4.out _).mono ?_
    rintro e w8 ⟨rfl, b8⟩
    go_wp2
    go_ret
    exact ⟨rfl, grows (grows (grows (grows (grows (grows b1 b2) b4) b5) b6) b7) b8⟩

open Go.ChangeShapes Go.WideShapes Go.ChangeAt
set_option maxRecDepth 100000 in
theorem lifted (os : Os) (started : os.Started) (H : Type) (enc : TypeId × Value → H) :
    ReturnsInHanded {} Tryd.checked os 6 .any (fun w args => (Rows.shaOnceSpec.pre enc Tryd.prog Tryd.f6 Rows.shaOnceRow.domain false w args ∧ laidMetH Tryd.prog Rows.shaOnceRow.laid w) ∧ sizedMet enc Tryd.prog Tryd.f6 (OpenSpec.ofChange Rows.shaOnceSpec) false w args)
      (Rows.shaOnceSpec.post enc Tryd.prog Tryd.f6 false true false false) := by
  refine returnsInHanded_of_change_and (C := Tryd.checked) (X := fun w _ => laidMetH Tryd.prog Rows.shaOnceRow.laid w) (fun _ _ _ hh h => h.of_heap hh) Ends.own started (by kernel_rfl) Tryd.func6
    (ChangeSpec.witness_shaped (enc := enc) (C := Tryd.checked) (os := os) (X := fun w _ => laidMetH Tryd.prog Rows.shaOnceRow.laid w) false (World.laidAll Tryd.prog os Rows.shaOnceRow.laid) #[.string ⟨#[]⟩, .string ⟨#[]⟩] 8 (World.laidAll_os _ _ _)
      (World.shaped_of_ZipB (by kernel_rfl) (by kernel_rfl)) (by kernel_rfl) (by kernel_rfl) (by kernel_rfl)
      (by rw [MakeChecks.laidMetH_plain _ _ _ (by kernel_rfl)]; exact laidMet_laidAll _ (by kernel_rfl) (by kernel_rfl))) ?_
  intro W base args ds gs before hval0 hW _ hsz0 hL _
  have hval : ∀ (j : Nat) t v, Tryd.f6.params[j]? = some t → args[j]? = some v → Value.okWide Tryd.prog W .any base t v := hval0
  have hsz : (DataW.weightsEach Tryd.prog (Tryd.f6.params.toList ++ Rows.shaOnceSpec.plain.varTypes Tryd.prog) (ds ++ gs)).all (· ≤ reachBytes) = true := hsz0
  have hW' := hW
  obtain ⟨p, q, hA0, hV, rfl, hfz, hnd⟩ := hW
  have hA : DataW.TrodAll enc Tryd.prog W 0 (fun _ => true) true Tryd.f6.params.toList args.toList ds p := hA0
  rw [Tryd.params6] at hA hval hsz
  obtain ⟨v0, vs0, d0, ds0, p0, q0, hargs, rfl, rfl, h0, r0⟩ := trodAll_cons hA
  obtain ⟨v1, vs1, d1, ds1, p1, q1, rfl, rfl, rfl, h1, r1⟩ := trodAll_cons r0
  obtain ⟨rfl, rfl, rfl⟩ := trodAll_nil r1
  obtain rfl : args = #[v0, v1] := by cases args; simp_all
  obtain ⟨rfl, rfl⟩ := trodVars_none hV
  obtain ⟨a0, rfl, rfl, rfl, w0⟩ := Go.ChangeMaps.open_string Tryd.underlying9 (hval 0 9 v0 rfl rfl) h0
  obtain ⟨a1, rfl, rfl, rfl, w1⟩ := Go.ChangeMaps.open_string Tryd.underlying9 (hval 1 9 v1 rfl rfl) h1
  have b0 : a0.size ≤ 140737488351232 := by have := sized_string hsz (j := 0) rfl rfl; rw [Array.length_toList] at this; exact this
  have b1 : a1.size ≤ 140737488351232 := by have := sized_string hsz (j := 1) rfl rfl; rw [Array.length_toList] at this; exact this
  refine (walk a0 b0 a1 b1 W (Sha.roots_met (by kernel_rfl) hL)).mono fun e W' ⟨he, hb⟩ => ?_
  subst he
  exact ⟨_, rfl, Ends.law_end Ends.laidOut (by rw [Tryd.params6]; decide +kernel) rfl (by kernel_rfl) Tryd.underlying4 hW' rfl hb⟩

theorem row : Rows.ShaOnceSaid :=
  OpenClaim.holds_of_wide 6 Tryd.f6 rfl rfl rfl rfl rfl rfl rfl ⟨rfl, rfl, rfl, rfl, rfl⟩ rfl rfl rfl rfl rfl (by kernel_rfl) Tryd.func6 (by kernel_rfl)
    (of_decide_eq_true (by kernel_rfl)) (by unfold Func.isWrapper; first | (rw [if_pos (by decide +kernel)]; kernel_rfl) | (rw [if_neg (by decide +kernel)]; exact ⟨rfl, rfl⟩))
    (fun os started H enc _ => lifted os started H enc)

/-- The statement: the tied card. -/
theorem proved : Rows.ShaOnceCardSaid :=
  Claim7.holds_tied_plain_at .later [] [.data, .data] true Rows.shaOnceCard.stood.harness false row (fun _ h => by cases h) (by kernel_rfl) (fun _ h => by cases h) shaOnce_row_tie rfl ⟨rfl, rfl⟩ (by kernel_rfl) rfl
    (fun f fn hf hfn => by
      obtain rfl : f = 6 := Option.some.inj ((show Tryd.prog.funcNamed "demesne/demesnelaw06.ShaOnce" = some 6 by kernel_rfl).symm.trans hf) |>.symm
      obtain rfl : fn = Tryd.f6 := (Option.some.inj (Tryd.func6.symm.trans hfn)).symm
      exact ⟨by kernel_rfl, fun j t ht => by
        rw [Tryd.params6] at ht
        have hm : t ∈ [9, 9] := by simpa using Array.mem_of_getElem? ht
        have hall : ([9, 9].all fun u => !Tryd.prog.wantsStandIn u) = true := by kernel_rfl
        exact (show Tryd.prog.wantsStandIn t = false by simpa using List.all_eq_true.1 hall t hm)⟩)
    (by kernel_rfl)
end Go.Proofs.YthknghbopfmlpaaDoor.shaOnce
