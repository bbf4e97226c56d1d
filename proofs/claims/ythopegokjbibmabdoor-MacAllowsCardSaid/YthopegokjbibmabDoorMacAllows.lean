/-
  demesnelaw07.MacAllows, for every input: a token allows just if each right is in each caveat of rights, and the round is past none of the others (the law answers true, and its arguments read as before).
  Conditions: none beyond the row's own (the reach; what the row lists, tied by the card).
-/
import Derived.Test.YthopegokjbibmabDoorMExam
import Derived.Test.YthopegokjbibmabDoorMArgs
import Derived.Test.YthopegokjbibmabDoorHRoots
import Derived.Test.YthopegokjbibmabDoorEnd
import Derived.Test.YthopegokjbibmabDoorTie
import Derived.Test.YthopegokjbibmabDoorCards
import Derived.LaidMore
import Derived.Lay
import Derived.PlainAid
import Derived.SevenTiedAt
import Derived.Stop.Joined
namespace Go.Proofs.YthopegokjbibmabDoor.macAllows
open Go.RowKit Go.Proofs.YthopegokjbibmabDoor.Sha Go.Proofs.YthopegokjbibmabDoor.Mac

theorem and_not (n r : Nat) (hn : n < 18446744073709551616) (hr : r < 18446744073709551616) : (bits .andNot .u64 (r : Int) (n : Int) == 0) = decide (n &&& r = r) := by
  have h : bits .andNot .u64 (r : Int) (n : Int) = ((r &&& (18446744073709551615 - n) : Nat) : Int) := u64_andNot_nat r n hr hn
  rw [h]
  have key : r &&& (18446744073709551615 - n) = 0 ↔ n &&& r = r := by
    have hb : ∀ i, (18446744073709551615 - n).testBit i = (decide (i < 64) && !n.testBit i) := fun i => by
      rw [show 18446744073709551615 - n = 2 ^ 64 - (n + 1) by omega]
      exact Nat.testBit_two_pow_sub_succ hn i
    have hi : ∀ i, r.testBit i = true → i < 64 := fun i hb => by
      rcases Nat.lt_or_ge i 64 with h | h
      · exact h
      · have h64 : r < 2 ^ i := Nat.lt_of_lt_of_le hr (Nat.pow_le_pow_right (n := 2) (by decide) h)
        rw [Nat.testBit_lt_two_pow h64] at hb
        exact absurd hb (by decide)
    constructor
    · intro h0
      apply Nat.eq_of_testBit_eq
      intro i
      have hx := congrArg (fun z => Nat.testBit z i) h0
      simp only [Nat.testBit_and, hb, Nat.zero_testBit] at hx
      rw [Nat.testBit_and]
      cases hr' : r.testBit i with
      | false => simp
      | true =>
        have := hi i hr'
        rw [hr'] at hx
        simp [this] at hx
        simp [hx]
    · intro h0
      apply Nat.eq_of_testBit_eq
      intro i
      have hx := congrArg (fun z => Nat.testBit z i) h0
      simp only [Nat.testBit_and] at hx
      rw [Nat.testBit_and, hb, Nat.zero_testBit]
      cases hr' : r.testBit i with
      | false => simp
      | true =>
        rw [hr', Bool.and_true] at hx
        simp [hx]
  by_cases hz : r &&& (18446744073709551615 - n) = 0
  · rw [hz, decide_eq_true (key.1 hz)]
    rfl
  · rw [decide_eq_false (fun h => hz (key.2 h)), beq_eq_false_iff_ne]
    omega
def letsTo (ls : List Cav) (r u k : Nat) : Bool := (ls.take k).all (letsB r u)
theorem letsTo_next {ls : List Cav} {k : Nat} {x : Cav} (h : ls[k]? = some x) (r u : Nat) : letsTo ls r u (k + 1) = (letsTo ls r u k && letsB r u x) := by
  unfold letsTo
  rw [List.take_add_one, h, List.all_append]
  simp
theorem letsTo_end (ls : List Cav) (r u : Nat) : letsTo ls r u ls.length = allowsL ls r u := by unfold letsTo allowsL; rw [List.take_length]
set_option maxHeartbeats 4000000 in
set_option maxRecDepth 100000 in
theorem walk (v : Value) (ls : List Cav) (r0 : Int) (hr0 : 0 ≤ r0) (hr1 : r0 ≤ 18446744073709551615) (u0 : Int) (hu0 : 0 ≤ u0) (hu1 : u0 ≤ 18446744073709551615) (w : World) (hR : Roots w) (hv : Row w v ls) :
    Calls Tryd.prog 3 #[v, .int .u64 r0, .int .u64 u0] w fun e w' => e = .returned (.bool true) ∧ Below w.heap.size w w' := by
  obtain ⟨r, rfl⟩ := Int.eq_ofNat_of_zero_le hr0
  obtain ⟨u, rfl⟩ := Int.eq_ofNat_of_zero_le hu0
  have hr : r < 18446744073709551616 := by omega
  obtain ⟨a, cap, rfl, hcap, hm⟩ := hv.slice
  have hlen := hv.len
  have HV := Lib.hid hv
  have HR := Lib.hid hR
  clear hR hv hr0 hu0
  go_enter Tryd.func3, Tryd.ntmps3
  go_wp2_with fail
  with_reducible refine (examples_any _ HR.out).mono ?_
  rintro e w1 ⟨rfl, b1⟩
  have HV1 := Lib.hid (HV.out.below b1)
  clear HV HR
  go_wp2
  go_loopw [8, 9] (fun kn i wr => ∃ (k : Nat) (b : Bool), k ≤ ls.length ∧ i = .int .i64 k ∧ kn = .bool b ∧ b = letsTo ls r u k ∧ w1 = wr) (fun _ i _ => ls.length - (intOf i).toNat)
  case atStart => exact ⟨0, true, Nat.zero_le _, rfl, rfl, rfl, rfl⟩
  case round =>
    obtain ⟨k, b, hk, rfl, rfl, hbk, rfl⟩ := hrel
    have HB := Lib.hid hbk
    clear hbk
    by_cases hlt : k < ls.length
    · obtain ⟨g, o, rfl, hg, hcell⟩ := HV1.out.cells hlt
      obtain ⟨x, hx⟩ : ∃ x, ls[k]? = some x := ⟨_, List.getElem?_eq_getElem hlt⟩
      obtain ⟨hfx, hc1, hc2⟩ := hcell k x hx
      have HN : Hid (letsTo ls r u (k + 1) = (b && letsB r u x)) := Lib.hid (by rw [letsTo_next hx, HB.out])
      have hltz : (k : Int) < (ls.length : Int) := by omega
      obtain ⟨x1, n⟩ := x
      have hn : n < 18446744073709551616 := hfx.2.2
      clear hx hcell hfx
      by_cases h1 : x1 = 1
      · subst h1
        have hq := and_not n r hn hr
        obtain ⟨q, hqq⟩ : ∃ q, decide (n &&& r = r) = q := ⟨_, rfl⟩
        rw [hqq] at hq
        have HN1 : Hid (letsTo ls r u (k + 1) = (b && q)) := Lib.hid (by rw [HN.out]; simp [letsB, hqq])
        clear hqq HN
        cases b with
        | false =>
          go_wp2
          go_roundw
          case rel => exact ⟨k + 1, false, by omega, by go_num, rfl, by rw [HN1.out]; rfl, trivial⟩
          case measure => simp [intOf]; omega
        | true =>
          go_wp2
          go_roundw
          case rel => exact ⟨k + 1, q, by omega, by go_num, rfl, by rw [HN1.out]; rfl, trivial⟩
          case measure => simp [intOf]; omega
      · have e1 : (x1 == 1) = false := by simpa using h1
        by_cases h2 : x1 = 2
        · subst h2
          have HN1 : Hid (letsTo ls r u (k + 1) = (b && decide (u ≤ n))) := Lib.hid (by rw [HN.out]; simp [letsB])
          clear HN h1 e1
          cases b with
          | false =>
            go_wp2
            go_roundw
            case rel => exact ⟨k + 1, false, by omega, by go_num, rfl, by rw [HN1.out]; rfl, trivial⟩
            case measure => simp [intOf]; omega
          | true =>
            go_wp2
            go_roundw
            case rel => exact ⟨k + 1, decide (u ≤ n), by omega, by go_num, rfl, by rw [HN1.out]; rfl, trivial⟩
            case measure => simp [intOf]; omega
        · have e2 : (x1 == 2) = false := by simpa using h2
          have HN1 : Hid (letsTo ls r u (k + 1) = b) := Lib.hid (by rw [HN.out]; simp [letsB, h1, h2])
          clear HN
          go_wp2
          go_roundw
          case rel => exact ⟨k + 1, b, by omega, by go_num, rfl, HN1.out.symm, trivial⟩
          case measure => simp [intOf]; omega
    · have hltz : ¬ (k : Int) < (ls.length : Int) := by omega
      obtain rfl : k = ls.length := by omega
      have HA : Hid (Calls Tryd.prog 5 #[.agg #[.string ⟨#[]⟩, .slice a ls.length cap, .string ⟨#[]⟩], .int .u64 (r : Int), .int .u64 (u : Int)] w1 fun e w' => e = .returned (.bool b) ∧ Below w1.heap.size w1 w') := Lib.hid (by
        rw [HB.out, letsTo_end]
        exact allows_any _ _ ls _ r u hr _ HV1.out HV1.out.len)
      go_wp2_with fail
      with_reducible refine HA.out.mono ?_
      rintro e w2 ⟨rfl, b2⟩
      cases b with
      | true =>
        go_wp2
        go_ret
        exact ⟨rfl, b1.trans (b2.mono b1.size)⟩
      | false =>
        go_wp2
        go_ret
        exact ⟨rfl, b1.trans (b2.mono b1.size)⟩
open Go.ChangeShapes Go.WideShapes Go.ChangeAt
set_option maxRecDepth 100000 in
theorem lifted (os : Os) (started : os.Started) (H : Type) (enc : TypeId × Value → H) :
    ReturnsInHanded {} Tryd.checked os 3 .any (fun w args => (Rows.macAllowsSpec.pre enc Tryd.prog Tryd.f3 Rows.macAllowsRow.domain false w args ∧ laidMetH Tryd.prog Rows.macAllowsRow.laid w) ∧ sizedMet enc Tryd.prog Tryd.f3 (OpenSpec.ofChange Rows.macAllowsSpec) false w args)
      (Rows.macAllowsSpec.post enc Tryd.prog Tryd.f3 false true false false) := by
  refine returnsInHanded_of_change_and (C := Tryd.checked) (X := fun w _ => laidMetH Tryd.prog Rows.macAllowsRow.laid w) (fun _ _ _ hh h => h.of_heap hh) Ends.own started (by kernel_rfl) Tryd.func3
    (ChangeSpec.witness_shaped (enc := enc) (C := Tryd.checked) (os := os) (X := fun w _ => laidMetH Tryd.prog Rows.macAllowsRow.laid w) false (World.laidAll Tryd.prog os Rows.macAllowsRow.laid) #[.slice none 0 0, .int .u64 0, .int .u64 0] 8 (World.laidAll_os _ _ _)
      (World.shaped_of_ZipB (by kernel_rfl) (by kernel_rfl)) (by kernel_rfl) (by kernel_rfl) (by kernel_rfl)
      (by rw [MakeChecks.laidMetH_plain _ _ _ (by kernel_rfl)]; exact laidMet_laidAll _ (by kernel_rfl) (by kernel_rfl))) ?_
  intro W base args ds gs before hval0 hW _ _ hL _
  have hval : ∀ (j : Nat) t v, Tryd.f3.params[j]? = some t → args[j]? = some v → Value.okWide Tryd.prog W .any base t v := hval0
  have hW' := hW
  obtain ⟨p, q, hA0, hV, rfl, hfz, hnd⟩ := hW
  have hA : DataW.TrodAll enc Tryd.prog W 0 (fun _ => true) true Tryd.f3.params.toList args.toList ds p := hA0
  rw [Tryd.params3] at hA hval
  obtain ⟨v0, vs0, d0, ds0, p0, q0, hargs, rfl, rfl, h0, r0⟩ := trodAll_cons hA
  obtain ⟨v1, vs1, d1, ds1, p1, q1, rfl, rfl, rfl, h1, r1⟩ := trodAll_cons r0
  obtain ⟨v2, vs2, d2, ds2, p2, q2, rfl, rfl, rfl, h2, r2⟩ := trodAll_cons r1
  obtain ⟨rfl, rfl, rfl⟩ := trodAll_nil r2
  obtain rfl : args = #[v0, v1, v2] := by cases args; simp_all
  obtain ⟨rfl, rfl⟩ := trodVars_none hV
  obtain ⟨a0, w0⟩ := Mac.open_cavs (hval 0 22 v0 rfl rfl) h0
  obtain ⟨a1, rfl, rfl, rfl, w1⟩ := open_int Tryd.underlying23 (hval 1 23 v1 rfl rfl) h1
  obtain ⟨a2, rfl, rfl, rfl, w2⟩ := open_int Tryd.underlying23 (hval 2 23 v2 rfl rfl) h2
  have b1 := bounds_u64 w1
  have b2 := bounds_u64 w2
  refine (walk v0 a0 a1 b1.1 b1.2 a2 b2.1 b2.2 W (Sha.roots_met (by kernel_rfl) hL) w0).mono fun e W' ⟨he, hb⟩ => ?_
  subst he
  exact ⟨_, rfl, Ends.law_end Ends.laidOut (by rw [Tryd.params3]; decide +kernel) rfl (by kernel_rfl) Tryd.underlying4 hW' rfl hb⟩

theorem row : Rows.MacAllowsSaid :=
  OpenClaim.holds_of_wide 3 Tryd.f3 rfl rfl rfl rfl rfl rfl rfl ⟨rfl, rfl, rfl, rfl, rfl⟩ rfl rfl rfl rfl rfl (by kernel_rfl) Tryd.func3 (by kernel_rfl)
    (of_decide_eq_true (by kernel_rfl)) (by unfold Func.isWrapper; first | (rw [if_pos (by decide +kernel)]; kernel_rfl) | (rw [if_neg (by decide +kernel)]; exact ⟨rfl, rfl⟩))
    (fun os started H enc _ => lifted os started H enc)

/-- The statement: the tied card. -/
theorem proved : Rows.MacAllowsCardSaid :=
  Claim7.holds_tied_plain_at .later [] [.data, .data] true Rows.macAllowsCard.stood.harness false row (fun _ h => by cases h) (by kernel_rfl) (fun _ h => by cases h) macAllows_row_tie rfl ⟨rfl, rfl⟩ (by kernel_rfl) rfl
    (fun f fn hf hfn => by
      obtain rfl : f = 3 := Option.some.inj ((show Tryd.prog.funcNamed "demesne/demesnelaw07.MacAllows" = some 3 by kernel_rfl).symm.trans hf) |>.symm
      obtain rfl : fn = Tryd.f3 := (Option.some.inj (Tryd.func3.symm.trans hfn)).symm
      exact ⟨by kernel_rfl, fun j t ht => by
        rw [Tryd.params3] at ht
        have hm : t ∈ [22, 23, 23] := by simpa using Array.mem_of_getElem? ht
        have hall : ([22, 23, 23].all fun u => !Tryd.prog.wantsStandIn u) = true := by kernel_rfl
        exact (show Tryd.prog.wantsStandIn t = false by simpa using List.all_eq_true.1 hall t hm)⟩)
    (by kernel_rfl)
end Go.Proofs.YthopegokjbibmabDoor.macAllows
