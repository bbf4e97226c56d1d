/-
  demesnelaw06.ShaBack, for every input that a machine can hold: what is shown is parsed; two are shown alike just if they are the same; each byte has two digits (the law answers true, and its arguments read as before).
  Conditions: the bulk of what comes in (the statement's second form); what the row lists, tied by the card.
-/
import Derived.Test.YthknghbopfmlpaaDoorHExamples
import Derived.Test.YthknghbopfmlpaaDoorHRoots
import Derived.Test.YthknghbopfmlpaaDoorUptoLaid
import Derived.Test.YthknghbopfmlpaaDoorEnd
import Derived.Test.YthknghbopfmlpaaDoorTie
import Derived.Test.YthknghbopfmlpaaDoorCards
import Derived.JoinedCond
import Derived.LaidMore
import Derived.Lay
import Derived.PlainAid
import Derived.SevenTiedAt
import Derived.Stop.Joined
namespace Go.Proofs.YthknghbopfmlpaaDoor.shaBack
open Go.RowKit Go.Proofs.YthknghbopfmlpaaDoor.Sha

theorem bytes_ext {a b : ByteArray} (h : a.data.toList = b.data.toList) : a = b := by rw [← str_of a, h, str_of]

set_option maxHeartbeats 4000000 in
set_option maxRecDepth 100000 in
theorem walk (a : ByteArray) (ha : a.size ≤ 1048576) (b : ByteArray) (hb : b.size ≤ 1048576) (w : World) (hR : Roots w) :
    Calls Tryd.prog 5 #[.string a, .string b] w fun e w' => e = .returned (.bool true) ∧ Below w.heap.size w w' := by
  have HX := Lib.hid (examples_any w hR)
  obtain ⟨A, hA⟩ : ∃ A, str (hexL a.data.toList) = A := ⟨_, rfl⟩
  obtain ⟨B, hB⟩ : ∃ B, str (hexL b.data.toList) = B := ⟨_, rfl⟩
  have H1 : Hid (∀ w, Calls Tryd.prog 13 #[.string a] w fun e w' => e = .returned (.string A) ∧ Below w.heap.size w w') := Lib.hid fun w => hA ▸ hex_any a (by omega) w
  have H2 : Hid (∀ w, Calls Tryd.prog 13 #[.string b] w fun e w' => e = .returned (.string B) ∧ Below w.heap.size w w') := Lib.hid fun w => hB ▸ hex_any b (by omega) w
  have hAl : A.data.toList = hexL a.data.toList := by rw [← hA, str_toList]
  have hBl : B.data.toList = hexL b.data.toList := by rw [← hB, str_toList]
  have hAs : A.size = 2 * a.size := by rw [← size_list, hAl, hexL_len, size_list]
  have hBs : B.size = 2 * b.size := by rw [← size_list, hBl, hexL_len, size_list]
  have H3 : Hid (∀ w, Calls Tryd.prog 13 #[.string (a ++ b)] w fun e w' => e = .returned (.string (A ++ B)) ∧ Below w.heap.size w w') := Lib.hid fun w => by
    refine hexed _ _ (by rw [ByteArray.size_append]; omega) ?_ w
    have e1 : (a ++ b).data.toList = a.data.toList ++ b.data.toList := by simp
    have e2 : (A ++ B).data.toList = A.data.toList ++ B.data.toList := by simp
    rw [e1, e2, hexL_append, hAl, hBl]
  have H4 : Hid (∀ w, Calls Tryd.prog 9 #[.string A] w fun e w' => e = .returned (.tuple #[.string a, .bool true]) ∧ Below w.heap.size w w') := Lib.hid fun w => by
    have := parse_yes A (by omega) a.data.toList hAl.symm w
    rwa [str_of] at this
  have hAsz : ((A.size : Int) == 2 * (a.size : Int)) = true := by rw [beq_iff_eq, hAs]; omega
  have hAz : A.size ≤ 2097152 := by omega
  have hBz : B.size ≤ 2097152 := by omega
  have hab : (A.toList == B.toList) = (a.toList == b.toList) := by
    rw [Bool.eq_iff_iff, beq_iff_eq, beq_iff_eq, Lib.toList_data, Lib.toList_data, Lib.toList_data, Lib.toList_data, hAl, hBl]
    exact ⟨hexL_inj _ _, fun h => by rw [h]⟩
  obtain ⟨q, hq⟩ : ∃ q, (a.toList == b.toList) = q := ⟨_, rfl⟩
  rw [hq] at hab
  have hqq : (q == q) = true := by simp
  clear hAs hBs hAl hBl hA hB hR
  go_enter Tryd.func5, Tryd.ntmps5
  go_wp2_with fail
  with_reducible refine HX.out.mono ?_
  rintro e w1 ⟨rfl, b1⟩
  go_wp2_with fail
  with_reducible refine (H1.out _).mono ?_
  rintro e w2 ⟨rfl, b2⟩
  go_wp2_with fail
  with_reducible refine (H4.out _).mono ?_
  rintro e w3 ⟨rfl, b3⟩
  go_wp2_with fail
  with_reducible refine (H1.out _).mono ?_
  rintro e w4 ⟨rfl, b4⟩
  go_wp2_with fail
  with_reducible refine (H2.out _).mono ?_
  rintro e w5 ⟨rfl, b5⟩
  go_wp2_with fail
  with_reducible refine (H1.out _).mono ?_
  rintro e w6 ⟨rfl, b6⟩
  go_wp2_with fail
  with_reducible refine (H3.out _).mono ?_
  rintro e w7 ⟨rfl, b7⟩
  go_wp2_with fail
  with_reducible refine (H1.out _).mono ?_
  rintro e w8 ⟨rfl, b8⟩
  go_wp2_with fail
  with_reducible refine (H2.out _).mono ?_
  rintro e w9 ⟨rfl, b9⟩
  go_wp2
  go_ret
  exact ⟨rfl, grows (grows (grows (grows (grows (grows (grows (grows b1 b2) b3) b4) b5) b6) b7) b8) b9⟩

open Go.ChangeShapes Go.WideShapes Go.ChangeAt
set_option maxRecDepth 100000 in
theorem contract (H : Type) (enc : TypeId × Value → H) (W : World) (base : Nat) (args : Array Value) (ds gs : List (DataW H)) (before : List MemPlace)
    (hval : ∀ (j : Nat) t v, Tryd.f5.params[j]? = some t → args[j]? = some v → Value.okWide Tryd.prog W .any base t v)
    (hW : DataW.Whole enc Tryd.prog Tryd.f5.params.toList Rows.shaBackSpec.vars false W args.toList ds gs before) (hk : Rows.uptoSmall H (ds ++ gs) = true) (hL : laidMetH Tryd.prog Rows.shaBackUptoRow.laid W) :
    Calls Tryd.prog 5 args W fun e W' => ∃ v, e = .returned v ∧ Rows.shaBackSpec.post enc Tryd.prog Tryd.f5 false true false false W args v W' := by
  have hW' := hW
  obtain ⟨p, q, hA0, hV, rfl, hfz, hnd⟩ := hW
  have hA : DataW.TrodAll enc Tryd.prog W 0 (fun _ => true) true Tryd.f5.params.toList args.toList ds p := hA0
  rw [Tryd.params5] at hA hval
  obtain ⟨v0, vs0, d0, ds0, p0, q0, hargs, rfl, rfl, h0, r0⟩ := trodAll_cons hA
  obtain ⟨v1, vs1, d1, ds1, p1, q1, rfl, rfl, rfl, h1, r1⟩ := trodAll_cons r0
  obtain ⟨rfl, rfl, rfl⟩ := trodAll_nil r1
  obtain rfl : args = #[v0, v1] := by cases args; simp_all
  obtain ⟨rfl, rfl⟩ := trodVars_none hV
  obtain ⟨a0, rfl, rfl, rfl, _⟩ := Go.ChangeMaps.open_string Tryd.underlying9 (hval 0 9 v0 rfl rfl) h0
  obtain ⟨a1, rfl, rfl, rfl, _⟩ := Go.ChangeMaps.open_string Tryd.underlying9 (hval 1 9 v1 rfl rfl) h1
  have hB : Rows.uptoBulkAll ([.lit (.string a0.data.toList), .lit (.string a1.data.toList)] ++ []) ≤ 1048576 := of_decide_eq_true hk
  simp only [List.append_nil, Rows.uptoBulkAll, Rows.uptoBulk] at hB
  have z0 : a0.data.toList.length = a0.size := Array.length_toList
  have z1 : a1.data.toList.length = a1.size := Array.length_toList
  refine (walk a0 (by omega) a1 (by omega) W (Sha.roots_met (by kernel_rfl) hL)).mono fun e W' ⟨he, hb⟩ => ?_
  subst he
  exact ⟨_, rfl, Ends.law_end Ends.laidOut (by rw [Tryd.params5]; decide +kernel) rfl (by kernel_rfl) Tryd.underlying4 hW' rfl hb⟩

set_option maxRecDepth 100000 in
theorem lifted (os : Os) (started : os.Started) (H : Type) (enc : TypeId × Value → H) (F : Stop.Interp) :
    ReturnsInHanded {} Tryd.checked os 5 .any (fun w args => ((Rows.OpenSpec.upto Rows.shaBackSpec).pre enc Tryd.prog Tryd.f5 Rows.shaBackUptoRow.domain false w args ∧ laidMetH Tryd.prog Rows.shaBackUptoRow.laid w) ∧ sizedMet enc Tryd.prog Tryd.f5 (Rows.OpenSpec.upto Rows.shaBackSpec) false w args) (((Rows.OpenSpec.upto Rows.shaBackSpec).at F).post enc Tryd.prog Tryd.f5 false true false false) := by
  refine Upto.handed (C := Tryd.checked) (s := Rows.OpenSpec.upto Rows.shaBackSpec) (k := Rows.uptoSmall) (X := fun w => laidMetH Tryd.prog Rows.shaBackUptoRow.laid w) rfl (fun _ _ hh h => h.of_heap hh) Ends.own started (by kernel_rfl) Tryd.func5
    (Upto.witness (enc := enc) (C := Tryd.checked) (os := os) (s := Rows.OpenSpec.upto Rows.shaBackSpec) (k := Rows.uptoSmall) rfl (X := fun w => laidMetH Tryd.prog Rows.shaBackUptoRow.laid w) false (World.laidAll Tryd.prog os Rows.shaBackUptoRow.laid) #[.string ⟨#[]⟩, .string ⟨#[]⟩] 8 (World.laidAll_os _ _ _)
      (World.shaped_of_ZipB (by kernel_rfl) (by kernel_rfl)) (by kernel_rfl) (x := ([.lit (.string []), .lit (.string [])], [], [])) (by kernel_rfl) rfl (by kernel_rfl) (by kernel_rfl)
      (by rw [MakeChecks.laidMetH_plain _ _ _ (by kernel_rfl)]; exact laidMet_laidAll _ (by kernel_rfl) (by kernel_rfl))) ?_
  intro W base args ds gs before hval hW hk hL
  exact contract H enc W base args ds gs before hval hW hk hL

theorem row : Rows.ShaBackUptoSaid :=
  OpenClaim.holds_of_cond 5 Tryd.f5 rfl rfl rfl rfl rfl rfl rfl ⟨rfl, rfl, rfl, rfl, rfl⟩ rfl rfl rfl rfl rfl (by kernel_rfl) Tryd.func5 (by kernel_rfl)
    (of_decide_eq_true (by kernel_rfl)) (by unfold Func.isWrapper; first | (rw [if_pos (by decide +kernel)]; kernel_rfl) | (rw [if_neg (by decide +kernel)]; exact ⟨rfl, rfl⟩))
    (fun os started H enc _ F => lifted os started H enc F)

/-- The statement: the tied card. -/
theorem proved : Rows.ShaBackUptoCardSaid :=
  Claim7.holds_tied_plain_at .later [] [.data, .data] true Rows.shaBackUptoCard.stood.harness false row (fun _ h => by cases h) (by kernel_rfl) (fun _ h => by cases h) shaBackUpto_row_tie rfl ⟨rfl, rfl⟩ (by kernel_rfl) rfl
    (fun f fn hf hfn => by
      obtain rfl : f = 5 := Option.some.inj ((show Tryd.prog.funcNamed "demesne/demesnelaw06.ShaBack" = some 5 by kernel_rfl).symm.trans hf) |>.symm
      obtain rfl : fn = Tryd.f5 := (Option.some.inj (Tryd.func5.symm.trans hfn)).symm
      exact ⟨by kernel_rfl, fun j t ht => by
        rw [Tryd.params5] at ht
        have hm : t ∈ [9, 9] := by simpa using Array.mem_of_getElem? ht
        have hall : ([9, 9].all fun u => !Tryd.prog.wantsStandIn u) = true := by kernel_rfl
        exact (show Tryd.prog.wantsStandIn t = false by simpa using List.all_eq_true.1 hall t hm)⟩)
    (by kernel_rfl)
end Go.Proofs.YthknghbopfmlpaaDoor.shaBack
