/- Proved: demesnelaw02.WordNames answers true for every slice of bytes, and leaves it as it was. Its row lists two tables of Go's library (utf8.first, utf8.acceptRanges) as they are laid; the call reads neither. -/
import Derived.Test.YtmcpeejmmhaohaaDoorWMaker
import Derived.Test.YtmcpeejmmhaohaaDoorEnd
import Derived.Test.YtmcpeejmmhaohaaDoorTie
import Derived.Test.YtmcpeejmmhaohaaDoorCards
import Derived.LaidMore
import Derived.Lay
import Derived.SevenTiedAt
import Derived.Stop.Joined
namespace Go.Proofs.YtmcpeejmmhaohaaDoor.wordNames
open Go.RowKit Go.Proofs.YtmcpeejmmhaohaaDoor.Word Go.Proofs.YtmcpeejmmhaohaaDoor.Args

theorem ahead (c : UInt8) (m : List UInt8) : ((⟨#[c]⟩ : ByteArray) ++ str m).data.toList = c :: m := by simp [str]
theorem behind (c : UInt8) (m : List UInt8) : (str m ++ (⟨#[c]⟩ : ByteArray)).data.toList = m ++ [c] := by simp [str]

set_option maxRecDepth 100000 in
set_option maxHeartbeats 4000000 in
theorem walk (v : Value) (bs : List UInt8) (w : World) (hv : Bytes w v bs) :
    Calls Tryd.prog 4 #[v] w fun e w' => e = .returned (.bool true) ∧ Below w.heap.size w w' := by
  have HV := Lib.hid hv
  obtain ⟨o, cap, rfl, hm, _⟩ := hv
  unfold maxLen at hm
  obtain ⟨m, hmin⟩ : ∃ m : Nat, m = min bs.length 15 := ⟨_, rfl⟩
  have hmi : min (bs.length : Int) 15 = (m : Int) := by omega
  have hm15 : m ≤ 15 := by omega
  have hcount := made_count bs
  rw [← hmin] at hcount
  have HCnt := Lib.hid (show ((count (str (made bs)).data.toList : Nat) : Int) = 1 + (m : Int) by rw [str_toList, hcount]; omega)
  have hz := made_z bs
  rw [← hmin] at hz
  have HZ := Lib.hid hz
  have hsz : (str (made bs)).size ≤ 32 := by rw [str_size]; exact made_len bs
  have HM := Lib.hid (made_any (.slice o bs.length cap) bs)
  have HR := Lib.hid (made_right bs)
  obtain ⟨q, hq⟩ : ∃ q, q = str (made bs) := ⟨_, rfl⟩
  rw [← hq] at HM HCnt hsz
  have HQ := Lib.hid hq
  clear hcount hz hmin hq
  go_enter Tryd.func4, Tryd.ntmps4
  go_wp2_with fail
  refine (examples_any _).mono ?_
  rintro e w1 ⟨rfl, hb1⟩
  go_wp2_with fail
  refine (HM.out _ (HV.out.below hb1)).mono ?_
  rintro e w2 ⟨rfl, hb2⟩
  have hb := grows hb1 hb2
  clear hb1 hb2
  go_wp2_with fail
  refine (right_is q true (by rw [HQ.out, str_toList]; exact HR.out) _).mono ?_
  rintro e w3 ⟨rfl, hb3⟩
  have hb' := grows hb hb3
  clear hb hb3
  go_wp2_with fail
  refine (count_is q (by omega) (1 + m) HCnt.out _).mono ?_
  rintro e w4 ⟨rfl, hb4⟩
  have hb := grows hb' hb4
  clear hb' hb4
  go_wp2_with fail
  refine (right_is _ false (by rw [HQ.out, ahead]; exact ahead_none 48 _ (by decide) (by decide)) _).mono ?_
  rintro e w5 ⟨rfl, hb5⟩
  have hb' := grows hb hb5
  clear hb hb5
  go_wp2_with fail
  refine (right_is _ false (by rw [HQ.out, ahead]; exact ahead_none 45 _ (by decide) (by decide)) _).mono ?_
  rintro e w6 ⟨rfl, hb6⟩
  have hb := grows hb' hb6
  clear hb' hb6
  go_wp2_with fail
  refine (right_is _ false (by rw [HQ.out, behind]; exact made_spoilt bs 32 (by decide) (by decide)) _).mono ?_
  rintro e w7 ⟨rfl, hb7⟩
  have hb' := grows hb hb7
  clear hb hb7
  go_wp2_with fail
  refine (right_is _ false (by rw [HQ.out, behind]; exact made_spoilt bs 65 (by decide) (by decide)) _).mono ?_
  rintro e w8 ⟨rfl, hb8⟩
  have hb := grows hb' hb8
  clear hb' hb8
  go_wp2_with fail
  refine (right_is _ false (by rw [HQ.out, behind]; exact made_spoilt bs 47 (by decide) (by decide)) _).mono ?_
  rintro e w9 ⟨rfl, hb9⟩
  have hb' := grows hb hb9
  clear hb hb9
  go_wp2_with fail
  by_cases h15 : m = 15
  · refine (right_is _ false (by rw [HQ.out, behind, HZ.out]; simp; omega) _).mono ?_
    rintro e w10 ⟨rfl, hb10⟩
    have hb := grows hb' hb10
    have hd : decide (1 + (m : Int) < 16) = false := decide_eq_false (by omega)
    have hq32 : decide ((q.size : Int) ≤ 32) = true := decide_eq_true (by omega)
    clear hb' hb10 h15
    go_wp2
    go_ret
    exact ⟨rfl, hb⟩
  · refine (right_is _ true (by rw [HQ.out, behind, HZ.out]; simp; omega) _).mono ?_
    rintro e w10 ⟨rfl, hb10⟩
    have hb := grows hb' hb10
    have hd : decide (1 + (m : Int) < 16) = true := decide_eq_true (by omega)
    have hq32 : decide ((q.size : Int) ≤ 32) = true := decide_eq_true (by omega)
    clear hb' hb10 h15
    go_wp2
    go_ret
    exact ⟨rfl, hb⟩

open Go.ChangeShapes Go.WideShapes Go.ChangeAt
set_option maxRecDepth 100000 in
theorem lifted (os : Os) (started : os.Started) (H : Type) (enc : TypeId × Value → H) :
    ReturnsInHanded {} Tryd.checked os 4 .any (fun w args => (Rows.wordNamesSpec.pre enc Tryd.prog Tryd.f4 Rows.wordNamesRow.domain false w args ∧ laidMetH Tryd.prog Rows.wordNamesRow.laid w) ∧ sizedMet enc Tryd.prog Tryd.f4 (OpenSpec.ofChange Rows.wordNamesSpec) false w args)
      (Rows.wordNamesSpec.post enc Tryd.prog Tryd.f4 false true false false) := by
  refine returnsInHanded_of_change_and (C := Tryd.checked) (X := fun w _ => laidMetH Tryd.prog Rows.wordNamesRow.laid w) (fun _ _ _ hh h => h.of_heap hh) Ends.own started (by kernel_rfl) Tryd.func4
    (ChangeSpec.witness_shaped (enc := enc) (C := Tryd.checked) (os := os) (X := fun w _ => laidMetH Tryd.prog Rows.wordNamesRow.laid w) false (World.laidAll Tryd.prog os Rows.wordNamesRow.laid) #[.slice none 0 0] 8 (World.laidAll_os _ _ _)
      (World.shaped_of_ZipB (by kernel_rfl) (by kernel_rfl)) (by kernel_rfl) (by kernel_rfl) (by kernel_rfl)
      (by rw [MakeChecks.laidMetH_plain _ _ _ (by kernel_rfl)]; exact laidMet_laidAll _ (by kernel_rfl) (by kernel_rfl))) ?_
  intro W base args ds gs before hval0 hW _ _ _ _
  have hval : ∀ (j : Nat) t v, Tryd.f4.params[j]? = some t → args[j]? = some v → Value.okWide Tryd.prog W .any base t v := hval0
  have hW' := hW
  obtain ⟨p, q, hA0, hV, rfl, hfz, hnd⟩ := hW
  have hA : DataW.TrodAll enc Tryd.prog W 0 (fun _ => true) true Tryd.f4.params.toList args.toList ds p := hA0
  rw [Tryd.params4] at hA hval
  obtain ⟨v0, vs0, d0, ds0, p0, q0, hargs, rfl, rfl, h0, r0⟩ := trodAll_cons hA
  obtain ⟨rfl, rfl, rfl⟩ := trodAll_nil r0
  obtain rfl : args = #[v0] := by cases args; simp_all
  obtain ⟨rfl, rfl⟩ := trodVars_none hV
  obtain ⟨a0, w0⟩ := Args.open_bytes Tryd.underlying29 Tryd.underlying5 (by kernel_rfl) (hval 0 29 v0 rfl rfl) h0
  refine (walk v0 a0 W w0).mono fun e W' ⟨he, hb⟩ => ?_
  subst he
  exact ⟨_, rfl, Ends.law_end Ends.laidOut (by rw [Tryd.params4]; decide +kernel) rfl (by kernel_rfl) Tryd.underlying4 hW' rfl hb⟩

theorem row : Rows.WordNamesSaid :=
  OpenClaim.holds_of_wide 4 Tryd.f4 rfl rfl rfl rfl rfl rfl rfl ⟨rfl, rfl, rfl, rfl, rfl⟩ rfl rfl rfl rfl rfl (by kernel_rfl) Tryd.func4 (by kernel_rfl)
    (of_decide_eq_true (by kernel_rfl)) (by unfold Func.isWrapper; first | (rw [if_pos (by decide +kernel)]; kernel_rfl) | (rw [if_neg (by decide +kernel)]; exact ⟨rfl, rfl⟩))
    (fun os started H enc _ => lifted os started H enc)

/-- The statement: the tied card. -/
theorem proved : Rows.WordNamesCardSaid :=
  Claim7.holds_tied_plain_at .later [] [.data, .pinned] true Rows.wordNamesCard.stood.harness false row (fun _ h => by cases h) (by kernel_rfl) (fun _ h => by cases h) wordNames_row_tie rfl ⟨rfl, rfl⟩ (by kernel_rfl) rfl
    (fun f fn hf hfn => by
      obtain rfl : f = 4 := Option.some.inj ((show Tryd.prog.funcNamed "demesne/demesnelaw02.WordNames" = some 4 by kernel_rfl).symm.trans hf) |>.symm
      obtain rfl : fn = Tryd.f4 := (Option.some.inj (Tryd.func4.symm.trans hfn)).symm
      exact ⟨by kernel_rfl, fun j t ht => by
        rw [Tryd.params4] at ht
        have hm : t ∈ [29] := by simpa using Array.mem_of_getElem? ht
        have hall : ([29].all fun u => !Tryd.prog.wantsStandIn u) = true := by kernel_rfl
        exact (show Tryd.prog.wantsStandIn t = false by simpa using List.all_eq_true.1 hall t hm)⟩)
    (by kernel_rfl)
end Go.Proofs.YtmcpeejmmhaohaaDoor.wordNames
