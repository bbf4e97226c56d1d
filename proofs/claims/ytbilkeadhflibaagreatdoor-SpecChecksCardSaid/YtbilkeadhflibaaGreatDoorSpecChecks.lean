/-
  demesnelaw11.SpecChecks, for every input: a job may be just if its path is one, its numbers are within their limits, its selector is right, and all its copies can be summed; the first of these that is not so is told (the law answers true, and its argument reads as before).
  Conditions: none beyond the row's own (the reach; what the row lists, tied by the card).
-/
import Derived.Test.YtbilkeadhflibaaGreatDoorJL4
import Derived.Test.YtbilkeadhflibaaGreatDoorJArgs
import Derived.Test.YtbilkeadhflibaaGreatDoorJWPath
import Derived.Test.YtbilkeadhflibaaGreatDoorJWFacts
import Derived.Test.YtbilkeadhflibaaGreatDoorTie
import Derived.Test.YtbilkeadhflibaaGreatDoorCards
import Derived.LaidMore
import Derived.Lay
import Derived.PlainAid
import Derived.SevenTiedAt
import Derived.Stop.Joined
import Derived.Deep.Cut
import Derived.Deep.DeepCutAuto
import Derived.Deep.CutBlock
namespace Go.Proofs.YtbilkeadhflibaaGreatDoor.specChecks
open Go.RowKit Go.Proofs.YtbilkeadhflibaaGreatDoor.Wire Go.Proofs.YtbilkeadhflibaaGreatDoor.Vec Go.Proofs.YtbilkeadhflibaaGreatDoor.Sel Go.Proofs.YtbilkeadhflibaaGreatDoor.Texts Go.Proofs.YtbilkeadhflibaaGreatDoor.Args Go.Proofs.YtbilkeadhflibaaGreatDoor.Job Go.Proofs.YtbilkeadhflibaaGreatDoor.Forms


/-- The first of these that is not so. -/
def wantR (u c rs t : Bool) : Int := if u = false then 6 else if c = false then 1 else if rs = false then 2 else if t = false then 5 else 0
set_option maxHeartbeats 8000000 in
set_option maxRecDepth 100000 in
theorem walkL (p : ByteArray) (a0 a1 a2 a3 n m k : Int) (sa : Option Addr) (sn sc : Nat) (ts : List Tm) (PX TX : ByteArray) (un rs su : Bool) (r v0 v1 v2 v3 : Int) (w : World) (hrow : TRow w (.slice sa sn sc) ts)
    (HX : Hid (∀ W, Below w.heap.size w W → Calls Tryz.prog 9 #[] W fun e w' => e = .returned (.bool true) ∧ Below W.heap.size W w'))
    (HTo : Hid (∀ W, Calls Tryz.prog 11 #[.agg #[.string p, .int .u64 a0, .int .u64 a1, .int .u64 a2, .int .u64 a3, .int .i64 n, .int .i64 m, .int .i64 k, .slice sa sn sc]] W fun e w' => e = .returned (.tuple #[.agg #[.int .u64 v0, .int .u64 v1, .int .u64 v2, .int .u64 v3], .bool su]) ∧ Below W.heap.size W w'))
    (HUn : Hid (∀ W, Calls Tryz.prog 27 #[.string p, .string p] W fun e w' => e = .returned (.bool un) ∧ Below W.heap.size W w'))
    (HRi : Hid (∀ W, TRow W (.slice sa sn sc) ts → Calls Tryz.prog 28 #[.slice sa sn sc] W fun e w' => e = .returned (.bool rs) ∧ Below W.heap.size W w'))
    (HC : Hid (∀ W, TRow W (.slice sa sn sc) ts → Calls Tryz.prog 19 #[.agg #[.string p, .int .u64 a0, .int .u64 a1, .int .u64 a2, .int .u64 a3, .int .i64 n, .int .i64 m, .int .i64 k, .slice sa sn sc]] W fun e w' => e = .returned (.int .i64 r) ∧ Below W.heap.size W w'))
    (HP : Hid (∀ W, TRow W (.slice sa sn sc) ts → Calls Tryz.prog 22 #[.agg #[.string p, .int .u64 a0, .int .u64 a1, .int .u64 a2, .int .u64 a3, .int .i64 n, .int .i64 m, .int .i64 k, .slice sa sn sc]] W fun e w' => e = .returned (.string PX) ∧ Below W.heap.size W w'))
    (HT : Hid (∀ W, Below w.heap.size w W → TRow W (.slice sa sn sc) ts → Calls Tryz.prog 24 #[.agg #[.string p, .int .u64 a0, .int .u64 a1, .int .u64 a2, .int .u64 a3, .int .i64 n, .int .i64 m, .int .i64 k, .slice sa sn sc]] W fun e w' => e = .returned (.string TX) ∧ Below W.heap.size W w'))
    (hr : Hid (r = wantR un (inB n m k) rs su)) (hP : (PX.toList == ([] : List UInt8)) = (r != 0)) (hT : (TX.toList == [63]) = (r != 0)) :
    Calls Tryz.prog 5 #[.agg #[.string p, .int .u64 a0, .int .u64 a1, .int .u64 a2, .int .u64 a3, .int .i64 n, .int .i64 m, .int .i64 k, .slice sa sn sc]] w fun e w' => e = .returned (.bool true) ∧ Below w.heap.size w w' := by
  obtain ⟨ne, hne⟩ : ∃ b, b = (r != 0) := ⟨_, rfl⟩
  rw [← hne] at hP hT
  have hrr : (r == r) = true := by simp
  have hnn : (ne == ne) = true := by simp
  have Hne := Lib.hid hne
  have HRow := Lib.hid hrow
  clear hne hrow
  go_enter Tryz.func5, Tryz.ntmps5
  go_upto_region 1 with fail
  obtain ⟨T, hTe⟩ : ∃ T, T = w.heap.size := ⟨_, rfl⟩
  have hx := heap_alloc_new w (box9 p a0 a1 a2 a3 n m k (.slice sa sn sc))
  have b0 := grew w (box9 p a0 a1 a2 a3 n m k (.slice sa sn sc))
  rw [← hTe] at hx ⊢
  unfold box9 at hx b0
  generalize w.alloc _ = w0 at hx b0 ⊢
  have HX0 := Lib.hid hx
  clear hx hTe
  go_wp2_with fail
  with_reducible refine (HX.out _ b0).mono ?_
  rintro e w1 ⟨rfl, k1⟩
  have b1 := grows b0 k1
  have HX1 := Lib.hid ((k1.block _ (Array.getElem?_eq_some_iff.1 HX0.out).1).trans HX0.out)
  clear b0 k1 HX0
  obtain ⟨⟨c0, c1, c2, c3, c4, c5, c6, c7, c8⟩, _⟩ := cells9 HX1.out
  go_wp2_with fail
  with_reducible refine (HTo.out _).mono ?_
  rintro e w2 ⟨rfl, k2⟩
  clear c0 c1 c2 c3 c4 c5 c6 c7 c8
  go_upto_block 0 with fail
  have k3 := grows k2 (grew w2 (box v0 v1 v2 v3))
  unfold box at k3
  have b3 := grows b1 k3
  generalize w2.alloc _ = w3 at k3 b3 ⊢
  have HX3 := Lib.hid ((k3.block _ (Array.getElem?_eq_some_iff.1 HX1.out).1).trans HX1.out)
  have HR3 := Lib.hid (HRow.out.below b3)
  have HB3 := Lib.hid b3
  clear k2 k3 b1 b3 HX1 HTo HX
  go_cut [4] (fun v wr => v = .int .i64 r ∧ Below w3.heap.size w3 wr)
  case first =>
    obtain ⟨⟨c0, c1, c2, c3, c4, c5, c6, c7, c8⟩, _⟩ := cells9 HX3.out
    cases un with
    | false =>
      have hr6 : r = 6 := by rw [hr.out]; rfl
      clear hr
      go_wp2_with fail
      with_reducible refine (HUn.out _).mono ?_
      rintro e w4 ⟨rfl, k4⟩
      go_wp2_with fail
      go_meet
      exact ⟨by rw [hr6], k4⟩
    | true =>
      go_wp2_with fail
      with_reducible refine (HUn.out _).mono ?_
      rintro e w4 ⟨rfl, k4⟩
      have HX4 := Lib.hid ((k4.block _ (Array.getElem?_eq_some_iff.1 HX3.out).1).trans HX3.out)
      have HR4 := Lib.hid (HR3.out.below k4)
      clear c0 c1 c2 c3 c4 c5 c6 c7 c8
      obtain ⟨⟨c0, c1, c2, c3, c4, c5, c6, c7, c8⟩, _⟩ := cells9 HX4.out
      have six : n < 1 ∨ (¬ n < 1 ∧ 8 < n) ∨ (¬ n < 1 ∧ ¬ 8 < n ∧ m < 0) ∨ (¬ n < 1 ∧ ¬ 8 < n ∧ ¬ m < 0 ∧ 9 < m) ∨ (¬ n < 1 ∧ ¬ 8 < n ∧ ¬ m < 0 ∧ ¬ 9 < m ∧ k < 1) ∨ (¬ n < 1 ∧ ¬ 8 < n ∧ ¬ m < 0 ∧ ¬ 9 < m ∧ ¬ k < 1 ∧ 100 < k) ∨ (¬ n < 1 ∧ ¬ 8 < n ∧ ¬ m < 0 ∧ ¬ 9 < m ∧ ¬ k < 1 ∧ ¬ 100 < k) := by omega
      have no : ¬ (1 ≤ n ∧ n ≤ 8 ∧ 0 ≤ m ∧ m ≤ 9 ∧ 1 ≤ k ∧ k ≤ 100) → r = 1 := fun h => by
        rw [hr.out]
        unfold inB
        rw [decide_eq_false h]
        rfl
      have No := Lib.hid no
      have Hk4 := Lib.hid k4
      clear no k4
      rcases six with g1 | six
      · have hr1 : r = 1 := No.out (by omega)
        clear No hr
        go_wp2_with fail
        go_meet
        exact ⟨by rw [hr1], Hk4.out⟩
      rcases six with ⟨g1, g2⟩ | six
      · have hr1 : r = 1 := No.out (by omega)
        clear No hr
        go_wp2_with fail
        go_meet
        exact ⟨by rw [hr1], Hk4.out⟩
      rcases six with ⟨g1, g2, g3⟩ | six
      · have hr1 : r = 1 := No.out (by omega)
        clear No hr
        go_wp2_with fail
        go_meet
        exact ⟨by rw [hr1], Hk4.out⟩
      rcases six with ⟨g1, g2, g3, g4⟩ | six
      · have hr1 : r = 1 := No.out (by omega)
        clear No hr
        go_wp2_with fail
        go_meet
        exact ⟨by rw [hr1], Hk4.out⟩
      rcases six with ⟨g1, g2, g3, g4, g5⟩ | six
      · have hr1 : r = 1 := No.out (by omega)
        clear No hr
        go_wp2_with fail
        go_meet
        exact ⟨by rw [hr1], Hk4.out⟩
      rcases six with ⟨g1, g2, g3, g4, g5, g6⟩ | six
      · have hr1 : r = 1 := No.out (by omega)
        clear No hr
        go_wp2_with fail
        go_meet
        exact ⟨by rw [hr1], Hk4.out⟩
      obtain ⟨g1, g2, g3, g4, g5, g6⟩ := six
      have hb : inB n m k = true := decide_eq_true (by omega)
      have Hr : Hid (r = wantR true true rs su) := Lib.hid (by rw [hr.out, hb])
      clear No hb hr
      cases rs with
      | false =>
        have hr2 : r = 2 := by rw [Hr.out]; rfl
        clear Hr
        go_wp2_with fail
        with_reducible refine (HRi.out _ HR4.out).mono ?_
        rintro e w5 ⟨rfl, k5⟩
        go_wp2_with fail
        go_meet
        exact ⟨by rw [hr2], grows Hk4.out k5⟩
      | true =>
        cases su with
        | false =>
          have hr5 : r = 5 := by rw [Hr.out]; rfl
          clear Hr
          go_wp2_with fail
          with_reducible refine (HRi.out _ HR4.out).mono ?_
          rintro e w5 ⟨rfl, k5⟩
          go_wp2_with fail
          go_meet
          exact ⟨by rw [hr5], grows Hk4.out k5⟩
        | true =>
          have hr0 : r = 0 := by rw [Hr.out]; rfl
          clear Hr
          go_wp2_with fail
          with_reducible refine (HRi.out _ HR4.out).mono ?_
          rintro e w5 ⟨rfl, k5⟩
          go_wp2_with fail
          go_meet
          exact ⟨by rw [hr0], grows Hk4.out k5⟩
  case rest =>
    obtain ⟨rfl, hbc⟩ := hcut
    have HXc := Lib.hid ((hbc.block _ (Array.getElem?_eq_some_iff.1 HX3.out).1).trans HX3.out)
    have HRc := Lib.hid (HR3.out.below hbc)
    have bc := grows HB3.out hbc
    clear hbc HX3 HR3 HB3 HUn HRi hr
    obtain ⟨⟨c0, c1, c2, c3, c4, c5, c6, c7, c8⟩, _⟩ := cells9 HXc.out
    have hnr : (r != 0) = ne := Hne.out.symm
    go_wp2_with fail
    with_reducible refine (HC.out _ HRc.out).mono ?_
    rintro e w5 ⟨rfl, k5⟩
    have b5 := grows bc k5
    have HX5 := Lib.hid ((k5.block _ (Array.getElem?_eq_some_iff.1 HXc.out).1).trans HXc.out)
    have HR5 := Lib.hid (HRc.out.below k5)
    clear bc k5 HXc HRc c0 c1 c2 c3 c4 c5 c6 c7 c8
    obtain ⟨⟨c0, c1, c2, c3, c4, c5, c6, c7, c8⟩, _⟩ := cells9 HX5.out
    go_wp2_with fail
    with_reducible refine (HP.out _ HR5.out).mono ?_
    rintro e w6 ⟨rfl, k6⟩
    have b6 := grows b5 k6
    have HX6 := Lib.hid ((k6.block _ (Array.getElem?_eq_some_iff.1 HX5.out).1).trans HX5.out)
    have HR6 := Lib.hid (HR5.out.below k6)
    clear b5 k6 HX5 HR5 c0 c1 c2 c3 c4 c5 c6 c7 c8
    obtain ⟨⟨c0, c1, c2, c3, c4, c5, c6, c7, c8⟩, _⟩ := cells9 HX6.out
    go_wp2_with fail
    with_reducible refine (HT.out _ b6 HR6.out).mono ?_
    rintro e w7 ⟨rfl, k7⟩
    go_wp2
    go_ret
    exact ⟨rfl, grows b6 k7⟩

theorem put_none {x : Jb} : ((putJ x).toList == ([] : List UInt8)) = (checkJ x != 0) := by
  by_cases h : checkJ x = 0
  · have hp := putJ_pos h
    have h1 : ((putJ x).toList == ([] : List UInt8)) = false := by
      rw [beq_eq_false_iff_ne]
      intro e
      rw [Lib.toList_data] at e
      have e2 := congrArg List.length e
      rw [size_list, List.length_nil] at e2
      omega
    rw [h1, h]
    rfl
  · rw [putJ_no h, show (checkJ x != 0) = true by simpa using h, Lib.toList_data]
    rfl
theorem text_none {x : Jb} : ((textJ x).toList == [63]) = (checkJ x != 0) := by
  by_cases h : checkJ x = 0
  · have h1 : ((textJ x).toList == [63]) = false := by
      rw [beq_eq_false_iff_ne]
      intro e
      rw [Lib.toList_data] at e
      have e2 := congrArg List.length e
      unfold textJ at e2
      rw [if_pos h, str_data_list, wordsJ_eq] at e2
      rw [show ([path x, textV (dem x), dec (numJ x 0), dec (numJ x 1), dec (numJ x 2), textS (terms x)].map fun t => t.data.toList) = [(path x).data.toList, (textV (dem x)).data.toList, (dec (numJ x 0)).data.toList, (dec (numJ x 1)).data.toList, (dec (numJ x 2)).data.toList, (textS (terms x)).data.toList] from rfl, glue6] at e2
      simp at e2
    rw [h1, h]
    rfl
  · have ht : textJ x = ⟨#[63]⟩ := if_neg h
    rw [ht, show (checkJ x != 0) = true by simpa using h, Lib.toList_data]
    rfl
theorem want_check (x : Jb) : checkJ x = wantR (Word.under (path x).data.toList (path x).data.toList) (inB (cou x) (pri x) (tik x)) (rightS (terms x)) (totalJ x).isSome := by
  unfold checkJ wantR
  by_cases h : Word.parts (path x).data.toList = []
  · rw [if_pos h, Word.under_none h]
    rfl
  · rw [if_neg h, Word.under_self h]
    rfl
theorem walk (x : Jb) (u : Value) (hf : FairJ x) (w : World) (hR : Roots w) (hu : TRow w u (terms x)) :
    Calls Tryz.prog 5 #[valJ x u] w fun e w' => e = .returned (.bool true) ∧ Below w.heap.size w w' := by
  obtain ⟨sa, sc, rfl, _, _⟩ := hu.slice
  refine walkL (path x) (am (dem x) 0) (am (dem x) 1) (am (dem x) 2) (am (dem x) 3) (cou x) (pri x) (tik x) sa (terms x).length sc (terms x) (putJ x) (textJ x) (Word.under (path x).data.toList (path x).data.toList) (rightS (terms x)) (totalJ x).isSome (checkJ x)
    (am ((totalJ x).getD (0, 0, 0, 0)) 0) (am ((totalJ x).getD (0, 0, 0, 0)) 1) (am ((totalJ x).getD (0, 0, 0, 0)) 2) (am ((totalJ x).getD (0, 0, 0, 0)) 3) w hu (Lib.hid fun W h => examples_any W (hR.below h))
    (Lib.hid fun W => total_any x hf.dem _ W) (Lib.hid fun W => Word.under_any (path x) (path x) (by have := hf.path; omega) W) (Lib.hid fun W h => right_sel _ _ W h hf.terms)
    (Lib.hid fun W h => check_any x _ W hf h) (Lib.hid fun W h => put_jb x _ W hf h) (Lib.hid fun W hb h => text_jb x _ W hf h (hR.tab.below hb)) (Lib.hid (want_check x)) put_none text_none

open Go.ChangeShapes Go.WideShapes Go.ChangeAt
set_option maxRecDepth 100000 in
theorem lifted (os : Os) (started : os.Started) (H : Type) (enc : TypeId × Value → H) :
    ReturnsInHanded {} Tryz.checked os 5 .any (fun w args => (Rows.specChecksSpec.pre enc Tryz.prog Tryz.f5 Rows.specChecksRow.domain false w args ∧ laidMetH Tryz.prog Rows.specChecksRow.laid w) ∧ sizedMet enc Tryz.prog Tryz.f5 (OpenSpec.ofChange Rows.specChecksSpec) false w args)
      (Rows.specChecksSpec.post enc Tryz.prog Tryz.f5 false true false false) := by
  refine returnsInHanded_of_change_and (C := Tryz.checked) (X := fun w _ => laidMetH Tryz.prog Rows.specChecksRow.laid w) (fun _ _ _ hh h => h.of_heap hh) Ends.own started (by kernel_rfl) Tryz.func5
    (ChangeSpec.witness_shaped (enc := enc) (C := Tryz.checked) (os := os) (X := fun w _ => laidMetH Tryz.prog Rows.specChecksRow.laid w) false (World.laidAll Tryz.prog os Rows.specChecksRow.laid) #[.agg #[.string ⟨#[]⟩, .int .u64 0, .int .u64 0, .int .u64 0, .int .u64 0, .int .i64 0, .int .i64 0, .int .i64 0, .slice none 0 0]] 8 (World.laidAll_os _ _ _)
      (World.shaped_of_ZipB (by kernel_rfl) (by kernel_rfl)) (by kernel_rfl) (by kernel_rfl) (by kernel_rfl)
      (by rw [MakeChecks.laidMetH_plain _ _ _ (by kernel_rfl)]; exact laidMet_laidAll _ (by kernel_rfl) (by kernel_rfl))) ?_
  intro W base args ds gs before hval0 hW _ hsz0 hL _
  have hval : ∀ (j : Nat) t v, Tryz.f5.params[j]? = some t → args[j]? = some v → Value.okWide Tryz.prog W .any base t v := hval0
  have hsz : (DataW.weightsEach Tryz.prog (Tryz.f5.params.toList ++ Rows.specChecksSpec.plain.varTypes Tryz.prog) (ds ++ gs)).all (· ≤ reachBytes) = true := hsz0
  have hW' := hW
  obtain ⟨p, q, hA0, hV, rfl, hfz, hnd⟩ := hW
  have hA : DataW.TrodAll enc Tryz.prog W 0 (fun _ => true) true Tryz.f5.params.toList args.toList ds p := hA0
  rw [Tryz.params5] at hA hval hsz
  obtain ⟨v0, vs0, d0, ds0, p0, q0, hargs, rfl, rfl, h0, r0⟩ := trodAll_cons hA
  obtain ⟨rfl, rfl, rfl⟩ := trodAll_nil r0
  obtain rfl : args = #[v0] := by cases args; simp_all
  obtain ⟨rfl, rfl⟩ := trodVars_none hV
  obtain ⟨a0, u0, rfl, w0, f0, g0, _⟩ := Job.open_jb (hval 0 27 v0 rfl rfl) h0
  have b0 := g0.reach hsz (j := 0) rfl rfl f0
  refine (walk a0 u0 b0 W (Job.roots_met hL) w0).mono fun e W' ⟨he, hb⟩ => ?_
  subst he
  exact ⟨_, rfl, Ends.law_end Ends.laidOut (by rw [Tryz.params5]; decide +kernel) rfl (by kernel_rfl) Tryz.underlying4 hW' rfl hb⟩

theorem row : Rows.SpecChecksSaid :=
  OpenClaim.holds_of_wide 5 Tryz.f5 rfl rfl rfl rfl rfl rfl rfl ⟨rfl, rfl, rfl, rfl, rfl⟩ rfl rfl rfl rfl rfl (by kernel_rfl) Tryz.func5 (by kernel_rfl)
    (of_decide_eq_true (by kernel_rfl)) (by unfold Func.isWrapper; first | (rw [if_pos (by decide +kernel)]; kernel_rfl) | (rw [if_neg (by decide +kernel)]; exact ⟨rfl, rfl⟩))
    (fun os started H enc _ => lifted os started H enc)

/-- The statement: the tied card. -/
theorem proved : Rows.SpecChecksCardSaid :=
  Claim7.holds_tied_plain_at .later [] [.data, .data, .data, .data, .sentinel, .sentinel, .sentinel, .pinned] true Rows.specChecksCard.stood.harness true row (fun _ h => by cases h) (by kernel_rfl) (fun _ h => by cases h) specChecks_row_tie rfl ⟨rfl, rfl⟩ (by kernel_rfl) rfl
    (fun f fn hf hfn => by
      obtain rfl : f = 5 := Option.some.inj ((show Tryz.prog.funcNamed "demesne/demesnelaw11.SpecChecks" = some 5 by kernel_rfl).symm.trans hf) |>.symm
      obtain rfl : fn = Tryz.f5 := (Option.some.inj (Tryz.func5.symm.trans hfn)).symm
      exact ⟨by kernel_rfl, fun j t ht => by
        rw [Tryz.params5] at ht
        have hm : t ∈ [27] := by simpa using Array.mem_of_getElem? ht
        have hall : ([27].all fun u => !Tryz.prog.wantsStandIn u) = true := by kernel_rfl
        exact (show Tryz.prog.wantsStandIn t = false by simpa using List.all_eq_true.1 hall t hm)⟩)
    (by kernel_rfl)
end Go.Proofs.YtbilkeadhflibaaGreatDoor.specChecks
