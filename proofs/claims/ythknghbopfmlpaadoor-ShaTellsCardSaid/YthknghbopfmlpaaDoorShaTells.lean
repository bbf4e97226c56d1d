/-
  demesnelaw06.ShaTells, for every input: of any text its sum and digits are told as the document's own answer tells them (the law answers true, and its arguments read as before).
  Conditions: none beyond the row's own (the reach; what the row lists, tied by the card).
-/
import Derived.Test.YthknghbopfmlpaaDoorHRefS
import Derived.Test.YthknghbopfmlpaaDoorHRefP
import Derived.Test.YthknghbopfmlpaaDoorHRoots
import Derived.Test.YthknghbopfmlpaaDoorEnd
import Derived.Test.YthknghbopfmlpaaDoorTie
import Derived.Test.YthknghbopfmlpaaDoorCards
import Derived.LaidMore
import Derived.Lay
import Derived.PlainAid
import Derived.SevenTiedAt
import Derived.Stop.Joined
namespace Go.Proofs.YthknghbopfmlpaaDoor.shaTells
open Go.RowKit Go.Proofs.YthknghbopfmlpaaDoor.Sha

theorem rparse_yes (s : ByteArray) (hs : s.size ≤ 140737488355328) (x : List UInt8) (h : hexL x = s.data.toList) (w : World) :
    Calls Tryd.prog 10 #[.string s] w fun e w' => e = .returned (.tuple #[.string (str x), .bool true]) ∧ Below w.heap.size w w' := by
  refine (rparse_any s hs w).mono ?_
  rintro e w' ⟨⟨y, hy, rfl⟩ | ⟨hno, _⟩, hb⟩
  · rw [hexL_inj x y (h.trans hy.symm)]
    exact ⟨rfl, hb⟩
  · exact absurd h (hno x)
theorem rparse_no (s : ByteArray) (hs : s.size ≤ 140737488355328) (h : ∀ x, hexL x ≠ s.data.toList) (w : World) :
    Calls Tryd.prog 10 #[.string s] w fun e w' => e = .returned (.tuple #[.string ⟨#[]⟩, .bool false]) ∧ Below w.heap.size w w' := by
  refine (rparse_any s hs w).mono ?_
  rintro e w' ⟨⟨y, hy, rfl⟩ | ⟨_, rfl⟩, hb⟩
  · exact absurd hy (h y)
  · exact ⟨rfl, hb⟩
/-- Both parse a text alike. -/
theorem both (t : ByteArray) (ht : t.size ≤ 140737488351232) : ∃ (y : ByteArray) (q : Bool), (∀ w, Calls Tryd.prog 9 #[.string t] w fun e w' => e = .returned (.tuple #[.string y, .bool q]) ∧ Below w.heap.size w w') ∧
    ∀ w, Calls Tryd.prog 10 #[.string t] w fun e w' => e = .returned (.tuple #[.string y, .bool q]) ∧ Below w.heap.size w w' := by
  by_cases hy : ∃ x, hexL x = t.data.toList
  · obtain ⟨x, hx⟩ := hy
    exact ⟨str x, true, fun w => parse_yes t (by omega) x hx w, fun w => rparse_yes t (by omega) x hx w⟩
  · exact ⟨⟨#[]⟩, false, fun w => parse_no t (by omega) (fun x hx => hy ⟨x, hx⟩) w, fun w => rparse_no t (by omega) (fun x hx => hy ⟨x, hx⟩) w⟩

set_option maxHeartbeats 4000000 in
set_option maxRecDepth 100000 in
theorem walk (s : ByteArray) (hs : s.size ≤ 140737488351232) (t : ByteArray) (ht : t.size ≤ 140737488351232) (w : World) (hR : Roots w) :
    Calls Tryd.prog 3 #[.string s, .string t] w fun e w' => e = .returned (.bool true) ∧ Below w.heap.size w w' := by
  have HX := Lib.hid (examples_any w hR)
  have HR := Lib.hid hR
  obtain ⟨m, hm⟩ : ∃ m : Nat, min (s.size : Int) 300 = (m : Int) := ⟨min s.size 300, by omega⟩
  have hm2 : m ≤ 300 := by omega
  have hms : m ≤ s.size := by omega
  have hmsz : (m : Int) ≤ (s.size : Int) := by omega
  obtain ⟨y, q, hP, hQ⟩ := both t ht
  have HP := Lib.hid hP
  have HQ := Lib.hid hQ
  have hqq : (q == q) = true := by simp
  obtain ⟨x, hx⟩ : ∃ x, s.extract 0 m = x := ⟨_, rfl⟩
  have hxs : x.size ≤ 300 := by rw [← hx, ByteArray.size_extract]; omega
  have H1 : Hid (∀ w, Roots w → Calls Tryd.prog 11 #[.string x] w fun e w' => e = .returned (.string (str (sumL x.data.toList))) ∧ Below w.heap.size w w') := Lib.hid fun w hR => sum_any x (by omega) w hR
  have H2 : Hid (∀ w, Calls Tryd.prog 12 #[.string x] w fun e w' => e = .returned (.string (str (sumL x.data.toList))) ∧ Below w.heap.size w w') := Lib.hid fun w => rsum_any x (by omega) w
  have H3 : Hid (∀ w, Calls Tryd.prog 13 #[.string x] w fun e w' => e = .returned (.string (str (hexL x.data.toList))) ∧ Below w.heap.size w w') := Lib.hid fun w => hex_any x (by omega) w
  have H4 : Hid (∀ w, Calls Tryd.prog 14 #[.string x] w fun e w' => e = .returned (.string (str (hexL x.data.toList))) ∧ Below w.heap.size w w') := Lib.hid fun w => rhex_any x (by omega) w
  obtain ⟨A, hA⟩ : ∃ A, str (sumL x.data.toList) = A := ⟨_, rfl⟩
  obtain ⟨B, hB⟩ : ∃ B, str (hexL x.data.toList) = B := ⟨_, rfl⟩
  rw [hA] at H1 H2
  rw [hB] at H3 H4
  clear hA hB hR hP hQ hs
  go_enter Tryd.func3, Tryd.ntmps3
  go_wp2_with fail
  with_reducible refine HX.out.mono ?_
  rintro e w1 ⟨rfl, b1⟩
  go_wp2_with fail
  with_reducible refine (HP.out _).mono ?_
  rintro e w2 ⟨rfl, b2⟩
  go_wp2_with fail
  with_reducible refine (HQ.out _).mono ?_
  rintro e w3 ⟨rfl, b3⟩
  have hb3 := grows (grows b1 b2) b3
  clear b1 b2 b3
  go_wp2_with fail
  with_reducible refine (H1.out _ (HR.out.below hb3)).mono ?_
  rintro e w4 ⟨rfl, b4⟩
  go_wp2_with fail
  with_reducible refine (H2.out _).mono ?_
  rintro e w5 ⟨rfl, b5⟩
  go_wp2_with fail
  with_reducible refine (H3.out _).mono ?_
  rintro e w6 ⟨rfl, b6⟩
  go_wp2_with fail
  with_reducible refine (H4.out _).mono ?_
  rintro e w7 ⟨rfl, b7⟩
  go_wp2
  go_ret
  exact ⟨rfl, grows (grows (grows (grows hb3 b4) b5) b6) b7⟩

open Go.ChangeShapes Go.WideShapes Go.ChangeAt
set_option maxRecDepth 100000 in
theorem lifted (os : Os) (started : os.Started) (H : Type) (enc : TypeId × Value → H) :
    ReturnsInHanded {} Tryd.checked os 3 .any (fun w args => (Rows.shaTellsSpec.pre enc Tryd.prog Tryd.f3 Rows.shaTellsRow.domain false w args ∧ laidMetH Tryd.prog Rows.shaTellsRow.laid w) ∧ sizedMet enc Tryd.prog Tryd.f3 (OpenSpec.ofChange Rows.shaTellsSpec) false w args)
      (Rows.shaTellsSpec.post enc Tryd.prog Tryd.f3 false true false false) := by
  refine returnsInHanded_of_change_and (C := Tryd.checked) (X := fun w _ => laidMetH Tryd.prog Rows.shaTellsRow.laid w) (fun _ _ _ hh h => h.of_heap hh) Ends.own started (by kernel_rfl) Tryd.func3
    (ChangeSpec.witness_shaped (enc := enc) (C := Tryd.checked) (os := os) (X := fun w _ => laidMetH Tryd.prog Rows.shaTellsRow.laid w) false (World.laidAll Tryd.prog os Rows.shaTellsRow.laid) #[.string ⟨#[]⟩, .string ⟨#[]⟩] 8 (World.laidAll_os _ _ _)
      (World.shaped_of_ZipB (by kernel_rfl) (by kernel_rfl)) (by kernel_rfl) (by kernel_rfl) (by kernel_rfl)
      (by rw [MakeChecks.laidMetH_plain _ _ _ (by kernel_rfl)]; exact laidMet_laidAll _ (by kernel_rfl) (by kernel_rfl))) ?_
  intro W base args ds gs before hval0 hW _ hsz0 hL _
  have hval : ∀ (j : Nat) t v, Tryd.f3.params[j]? = some t → args[j]? = some v → Value.okWide Tryd.prog W .any base t v := hval0
  have hsz : (DataW.weightsEach Tryd.prog (Tryd.f3.params.toList ++ Rows.shaTellsSpec.plain.varTypes Tryd.prog) (ds ++ gs)).all (· ≤ reachBytes) = true := hsz0
  have hW' := hW
  obtain ⟨p, q, hA0, hV, rfl, hfz, hnd⟩ := hW
  have hA : DataW.TrodAll enc Tryd.prog W 0 (fun _ => true) true Tryd.f3.params.toList args.toList ds p := hA0
  rw [Tryd.params3] at hA hval hsz
  obtain ⟨v0, vs0, d0, ds0, p0, q0, hargs, rfl, rfl, h0, r0⟩ := trodAll_cons hA
  obtain ⟨v1, vs1, d1, ds1, p1, q1, rfl, rfl, rfl, h1, r1⟩ := trodAll_cons r0
  obtain ⟨rfl, rfl, rfl⟩ := trodAll_nil r1
  obtain rfl : args = #[v0, v1] := by cases args; simp_all
  obtain ⟨rfl, rfl⟩ := trodVars_none hV
  obtain ⟨a0, rfl, rfl, rfl, w0⟩ := Go.ChangeMaps.open_string Tryd.underlying9 (hval 0 9 v0 rfl rfl) h0
  obtain ⟨a1, rfl, rfl, rfl, w1⟩ := Go.ChangeMaps.open_string Tryd.underlying9 (hval 1 9 v1 rfl rfl) h1
  have b0 : a0.size ≤ 140737488351232 := by have := sized_string hsz (j := 0) rfl rfl; rw [Array.length_toList] at this; exact this
  have b1 : a1.size ≤ 140737488351232 := by have := sized_string hsz (j := 1) rfl rfl; rw [Array.length_toList] at this; exact this
  refine (walk a0 b0 a1 b1 W (Sha.roots_met (by kernel_rfl) hL)).mono fun e W' ⟨he, hb⟩ => ?_
  subst he
  exact ⟨_, rfl, Ends.law_end Ends.laidOut (by rw [Tryd.params3]; decide +kernel) rfl (by kernel_rfl) Tryd.underlying4 hW' rfl hb⟩

theorem row : Rows.ShaTellsSaid :=
  OpenClaim.holds_of_wide 3 Tryd.f3 rfl rfl rfl rfl rfl rfl rfl ⟨rfl, rfl, rfl, rfl, rfl⟩ rfl rfl rfl rfl rfl (by kernel_rfl) Tryd.func3 (by kernel_rfl)
    (of_decide_eq_true (by kernel_rfl)) (by unfold Func.isWrapper; first | (rw [if_pos (by decide +kernel)]; kernel_rfl) | (rw [if_neg (by decide +kernel)]; exact ⟨rfl, rfl⟩))
    (fun os started H enc _ => lifted os started H enc)

/-- The statement: the tied card. -/
theorem proved : Rows.ShaTellsCardSaid :=
  Claim7.holds_tied_plain_at .later [] [.data, .data] true Rows.shaTellsCard.stood.harness false row (fun _ h => by cases h) (by kernel_rfl) (fun _ h => by cases h) shaTells_row_tie rfl ⟨rfl, rfl⟩ (by kernel_rfl) rfl
    (fun f fn hf hfn => by
      obtain rfl : f = 3 := Option.some.inj ((show Tryd.prog.funcNamed "demesne/demesnelaw06.ShaTells" = some 3 by kernel_rfl).symm.trans hf) |>.symm
      obtain rfl : fn = Tryd.f3 := (Option.some.inj (Tryd.func3.symm.trans hfn)).symm
      exact ⟨by kernel_rfl, fun j t ht => by
        rw [Tryd.params3] at ht
        have hm : t ∈ [9, 9] := by simpa using Array.mem_of_getElem? ht
        have hall : ([9, 9].all fun u => !Tryd.prog.wantsStandIn u) = true := by kernel_rfl
        exact (show Tryd.prog.wantsStandIn t = false by simpa using List.all_eq_true.1 hall t hm)⟩)
    (by kernel_rfl)
end Go.Proofs.YthknghbopfmlpaaDoor.shaTells
