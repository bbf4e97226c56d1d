/- Proved: demesnelaw01.WireOnce answers true for every text, place and number of 64 bits, and leaves them as they were. No condition. -/
import Derived.Test.YtloigbnfdldfcaaEnd
import Derived.Test.YtloigbnfdldfcaaExamples
import Derived.Deep.RegionHeld3
import Derived.Deep.QuietTactic
import Derived.BigQuiet
namespace Go.Proofs.Ytloigbnfdldfcaa.wireOnce
open Go.ChangeShapes Go.WideShapes Go.ChangeAt Go.RowKit
open Go.Proofs.Ytloigbnfdldfcaa.Wire Go.Proofs.Ytloigbnfdldfcaa.Num

/-- No beginning of a number's form is a number's. -/
theorem torn_list (a : Nat) (k : Nat) (hk : k < (putL a).length) : getV ((putL a).take k) 0 = none := by
  cases h : getV ((putL a).take k) 0 with
  | none => rfl
  | some x =>
    obtain ⟨_, _, _, _, _, hst⟩ := getV_lt (u := x.1) (n := x.2) h
    obtain ⟨_, r, hr⟩ := hst
    have e : putL a = putL x.1 ++ (r ++ (putL a).drop k) := by
      rw [← List.append_assoc, ← hr]
      simp
    have := (putL_begins e).2
    simp at this
    omega

theorem torn_str (a : Nat) : getV ((str (putL a)).extract 0 ((str (putL a)).size - 1)).data.toList 0 = none := by
  rw [Lib.extract_data, str_toList, str_size]
  exact torn_list a _ (by have := putL_pos a; omega)

set_option maxRecDepth 100000 in
set_option maxHeartbeats 2000000 in
theorem walk_yes (s : ByteArray) (hs : s.size ≤ 140737488351232) (p n u : Nat) (hu : u < 18446744073709551616) (a : Nat) (hpn : (p : Int) ≤ (n : Int)) (hn : (n : Int) ≤ (s.size : Int))
    (HG : Hid (getV s.data.toList p = some (u, n))) (HS : Hid ((str (putL u)).toList = (s.extract p n).toList)) (q : ByteArray) (hq1 : 1 ≤ q.size) (hq2 : q.size ≤ 10) (_hq3 : ¬ q.toList = []) (hq4 : q.toList.isEmpty = false)
    (HQ : Hid (∀ w, Calls Try.prog 14 #[.int .u64 a] w fun e w' => e = .returned (.string q) ∧ Below w.heap.size w w')) (HT : Hid (getV (q.extract 0 (q.size - 1)).data.toList 0 = none))
    (hlow : ((a : Int) < 128 ∧ (q.size : Int) = 1) ∨ (¬ (a : Int) < 128 ∧ 2 ≤ (q.size : Int))) (w : World) :
    Calls Try.prog 5 #[.string s, .int .i64 p, .int .u64 a] w fun e w' => e = .returned (.bool true) ∧ Below w.heap.size w w' := by
  go_enter Try.func5, Try.ntmps5
  go_wp2_with fail
  refine (examples_any _).mono ?_
  rintro e w1 ⟨rfl, hw1⟩
  go_wp2_with fail
  refine (get_yes s (by omega) p u n HG.out _).mono ?_
  rintro e w2 ⟨rfl, hw2⟩
  go_wp2_with fail
  refine (HQ.out _).mono ?_
  rintro e w3 ⟨rfl, hw3⟩
  go_wp2_with fail
  refine (get_no _ (by rw [ByteArray.size_extract]; omega) 0 HT.out _).mono ?_
  rintro e w4 ⟨rfl, hw4⟩
  have hb := grows (grows (grows hw1 hw2) hw3) hw4
  have hsame := HS.out
  have d1 : decide ((p : Int) < 0) = false := decide_eq_false (by omega)
  have d2 : decide (s.size < n) = false := decide_eq_false (by omega)
  have hp0 : (0 : Int) ≤ (p : Int) := by omega
  clear hw1 hw2 hw3 hw4
  go_wp2_with fail
  go_region_held3 (fun _ => True) (trivial) (first | (go_at_call 14; refine (put_any u hu _).mono ?_; rintro e w5 ⟨rfl, hw5⟩))
  have hb' := grows hb.drew hw5
  rcases hlow with ⟨hl, hl1⟩ | ⟨hl, hl1⟩
  · go_wp2
    go_ret
    exact ⟨rfl, hb'⟩
  · have d3 : decide ((a : Int) < 128) = false := decide_eq_false (by omega)
    have d4 : ((q.size : Int) == 1) = false := by rw [beq_eq_false_iff_ne]; omega
    go_wp2
    go_ret
    exact ⟨rfl, hb'⟩

set_option maxRecDepth 100000 in
set_option maxHeartbeats 2000000 in
theorem walk_no (s : ByteArray) (hs : s.size ≤ 140737488351232) (p : Int) (a : Nat)
    (HG : Hid (getV s.data.toList p = none)) (q : ByteArray) (hq1 : 1 ≤ q.size) (hq2 : q.size ≤ 10) (_hq3 : ¬ q.toList = []) (hq4 : q.toList.isEmpty = false)
    (HQ : Hid (∀ w, Calls Try.prog 14 #[.int .u64 a] w fun e w' => e = .returned (.string q) ∧ Below w.heap.size w w')) (HT : Hid (getV (q.extract 0 (q.size - 1)).data.toList 0 = none))
    (hlow : ((a : Int) < 128 ∧ (q.size : Int) = 1) ∨ (¬ (a : Int) < 128 ∧ 2 ≤ (q.size : Int))) (w : World) :
    Calls Try.prog 5 #[.string s, .int .i64 p, .int .u64 a] w fun e w' => e = .returned (.bool true) ∧ Below w.heap.size w w' := by
  go_enter Try.func5, Try.ntmps5
  go_wp2_with fail
  refine (examples_any _).mono ?_
  rintro e w1 ⟨rfl, hw1⟩
  go_wp2_with fail
  refine (get_no s (by omega) p HG.out _).mono ?_
  rintro e w2 ⟨rfl, hw2⟩
  go_wp2_with fail
  refine (HQ.out _).mono ?_
  rintro e w3 ⟨rfl, hw3⟩
  go_wp2_with fail
  refine (get_no _ (by rw [ByteArray.size_extract]; omega) 0 HT.out _).mono ?_
  rintro e w4 ⟨rfl, hw4⟩
  have hb := grows (grows (grows hw1 hw2) hw3) hw4
  clear hw1 hw2 hw3 hw4
  go_wp2_with fail
  go_quiet (fail)
  have hb' := below_drewN hb nq
  rcases hlow with ⟨hl, hl1⟩ | ⟨hl, hl1⟩
  · go_wp2
    go_ret
    exact ⟨rfl, hb'⟩
  · have d3 : decide ((a : Int) < 128) = false := decide_eq_false (by omega)
    have d4 : ((q.size : Int) == 1) = false := by rw [beq_eq_false_iff_ne]; omega
    go_wp2
    go_ret
    exact ⟨rfl, hb'⟩

theorem walk (s : ByteArray) (hs : s.size ≤ 140737488351232) (p : Int) (_ : -9223372036854775808 ≤ p) (_ : p ≤ 9223372036854775807) (a : Int) (ha : 0 ≤ a) (ha' : a ≤ 18446744073709551615) (w : World) :
    Calls Try.prog 5 #[.string s, .int .i64 p, .int .u64 a] w fun e w' => e = .returned (.bool true) ∧ Below w.heap.size w w' := by
  obtain ⟨x, rfl⟩ := Int.eq_ofNat_of_zero_le ha
  have hx : x < 18446744073709551616 := by omega
  have hten := putL_ten hx
  have hpos := putL_pos x
  have hone := putL_one x
  have hsz := str_size (putL x)
  have hne : ¬ (str (putL x)).toList = [] := by rw [str_list]; exact putL_ne x
  have hem : (str (putL x)).toList.isEmpty = false := by rw [str_list]; cases h : putL x with
    | nil => exact absurd h (putL_ne x)
    | cons _ _ => rfl
  have hlow : ((x : Int) < 128 ∧ ((str (putL x)).size : Int) = 1) ∨ (¬ (x : Int) < 128 ∧ 2 ≤ ((str (putL x)).size : Int)) := by omega
  cases h : getV s.data.toList p with
  | none => exact walk_no s hs p x h _ (by omega) (by omega) hne hem (put_any x hx) (torn_str x) hlow w
  | some y =>
    have hg := getV_lt (u := y.1) (n := y.2) h
    obtain ⟨q, rfl⟩ := Int.eq_ofNat_of_zero_le hg.2.2.2.1
    rw [Int.toNat_natCast, size_list] at hg
    refine walk_yes s hs q y.2 y.1 hg.1 x (by omega) (by omega) h ?_ _ (by omega) (by omega) hne hem (put_any x hx) (torn_str x) hlow w
    rw [hg.2.2.2.2.1, ext_list, hg.2.2.2.2.2.take, str_list]
    rfl

set_option maxRecDepth 100000 in
theorem lifted (os : Os) (started : os.Started) (H : Type) (enc : TypeId × Value → H) :
    ReturnsInHanded {} Try.checked os 5 .any (Rows.wireOnceSpec.pre6 enc Try.prog Try.f5 Rows.wireOnceRow.domain false) (Rows.wireOnceSpec.post enc Try.prog Try.f5 false true false false) := by
  refine returnsInHanded_of_change_sized (C := Try.checked) Ends.own started (by kernel_rfl) Try.func5
    (ChangeSpec.witness6 (enc := enc) (C := Try.checked) false ⟨#[], #[.string ⟨#[]⟩, .int .i64 0, .int .u64 0], []⟩ 8 (by kernel_rfl) (by kernel_rfl) (by kernel_rfl) (by kernel_rfl)) ?_
  intro W base args ds gs before hval0 hW _ hsz0 _
  have hval : ∀ (j : Nat) t v, Try.f5.params[j]? = some t → args[j]? = some v → Value.okWide Try.prog W .any base t v := hval0
  have hsz : (DataW.weightsEach Try.prog (Try.f5.params.toList ++ Rows.wireOnceSpec.plain.varTypes Try.prog) (ds ++ gs)).all (· ≤ reachBytes) = true := hsz0
  have hW' := hW
  obtain ⟨p, q, hA0, hV, rfl, hfz, hnd⟩ := hW
  have hA : DataW.TrodAll enc Try.prog W 0 (fun _ => true) true Try.f5.params.toList args.toList ds p := hA0
  rw [Try.params5] at hA hval hsz
  obtain ⟨v0, vs0, d0, ds0, p0, q0, hargs, rfl, rfl, h0, r0⟩ := trodAll_cons hA
  obtain ⟨v1, vs1, d1, ds1, p1, q1, rfl, rfl, rfl, h1, r1⟩ := trodAll_cons r0
  obtain ⟨v2, vs2, d2, ds2, p2, q2, rfl, rfl, rfl, h2, r2⟩ := trodAll_cons r1
  obtain ⟨rfl, rfl, rfl⟩ := trodAll_nil r2
  obtain rfl : args = #[v0, v1, v2] := by cases args; simp_all
  obtain ⟨rfl, rfl⟩ := trodVars_none hV
  obtain ⟨a0, rfl, rfl, rfl, w0⟩ := Go.ChangeMaps.open_string Try.underlying9 (hval 0 9 v0 rfl rfl) h0
  obtain ⟨a1, rfl, rfl, rfl, w1⟩ := open_int Try.underlying3 (hval 1 3 v1 rfl rfl) h1
  obtain ⟨a2, rfl, rfl, rfl, w2⟩ := open_int Try.underlying22 (hval 2 22 v2 rfl rfl) h2
  have b0 : a0.size ≤ 140737488351232 := by have := sized_string hsz (j := 0) rfl rfl; rw [Array.length_toList] at this; exact this
  have b1 := bounds_i64 w1
  have b2 := bounds_u64 w2
  refine (walk a0 b0 a1 b1.1 b1.2 a2 b2.1 b2.2 W).mono fun e W' ⟨he, hb⟩ => ?_
  subst he
  exact ⟨_, rfl, Ends.law_end Ends.laidOut (by rw [Try.params5]; decide +kernel) rfl (by kernel_rfl) Try.underlying4 hW' rfl hb⟩

/-- The statement. -/
theorem proved : Rows.WireOnceSaid :=
  OpenClaim.holds_of_wide 5 Try.f5 rfl rfl rfl rfl rfl rfl rfl ⟨rfl, rfl, rfl, rfl, rfl⟩ rfl rfl rfl rfl rfl (by kernel_rfl) Try.func5 (by kernel_rfl)
    (of_decide_eq_true (by kernel_rfl)) (by unfold Func.isWrapper; first | (rw [if_pos (by decide +kernel)]; kernel_rfl) | (rw [if_neg (by decide +kernel)]; exact ⟨rfl, rfl⟩))
    (fun os started H enc _ => lifted os started H enc)
end Go.Proofs.Ytloigbnfdldfcaa.wireOnce
