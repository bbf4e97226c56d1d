/- Proved: demesnelaw08.FrameOnce answers true for every text and place, and leaves them as they were. No condition. -/
import Derived.Test.YtlifobfbaiabgaaEnd
import Derived.Test.YtlifobfbaiabgaaFExam
import Derived.Deep.RegionHeld3
import Derived.Deep.QuietTactic
import Derived.BigQuiet
namespace Go.Proofs.Ytlifobfbaiabgaa.frameOnce
open Go.ChangeShapes Go.WideShapes Go.ChangeAt Go.RowKit
open Go.Proofs.Ytlifobfbaiabgaa.Frame

theorem none_end (s : ByteArray) : nextF s.data.toList (s.size : Int) = none := next_out (.inr (by rw [size_list]; omega))

set_option maxRecDepth 100000 in
set_option maxHeartbeats 2000000 in
theorem walk_no (s : ByteArray) (hs : s.size ≤ 140737488351232) (p : Int) (hp0 : -9223372036854775808 ≤ p) (hp1 : p ≤ 9223372036854775807) (HN : Hid (nextF s.data.toList p = none)) (w : World) :
    Calls Try.prog 7 #[.string s, .int .i64 p] w fun e w' => e = .returned (.bool true) ∧ Below w.heap.size w w' := by
  have N1 := Lib.hid (next_any s (by omega) p hp0 hp1)
  have N2 := Lib.hid (next_any s (by omega) s.size (by omega) (by omega))
  rw [HN.out] at N1
  rw [none_end] at N2
  unfold nextR at N1 N2
  go_enter Try.func7, Try.ntmps7
  go_wp2_with fail
  refine (examples_any _).mono ?_
  rintro e w1 ⟨rfl, hw1⟩
  go_wp2_with fail
  refine (N1.out _).mono ?_
  rintro e w2 ⟨rfl, rfl⟩
  go_wp2_with fail
  refine (N2.out _).mono ?_
  rintro e w2 ⟨rfl, rfl⟩
  go_wp2
  go_ret
  exact ⟨rfl, hw1⟩

set_option maxRecDepth 100000 in
set_option maxHeartbeats 2000000 in
theorem walk_yes (s : ByteArray) (hs : s.size ≤ 140737488351232) (p a n : Nat) (hp1 : (p : Int) ≤ 9223372036854775807) (HN : Hid (nextF s.data.toList p = some (a, n))) (hpn : (p : Int) ≤ (n : Int)) (hn : (n : Int) ≤ (s.size : Int)) (q : ByteArray)
    (HP : Hid (∀ w, Calls Try.prog 10 #[.string (s.extract a n)] w fun e w' => e = .returned (.string q) ∧ Below w.heap.size w w')) (HS : Hid (q.toList = (s.extract p n).toList)) (w : World) :
    Calls Try.prog 7 #[.string s, .int .i64 p] w fun e w' => e = .returned (.bool true) ∧ Below w.heap.size w w' := by
  have N1 := Lib.hid (next_any s (by omega) p (by omega) hp1)
  rw [HN.out] at N1
  unfold nextR at N1
  dsimp only at N1
  have hp0 : (0 : Int) ≤ (p : Int) := by omega
  go_enter Try.func7, Try.ntmps7
  go_wp2_with fail
  refine (examples_any _).mono ?_
  rintro e w1 ⟨rfl, hw1⟩
  go_wp2_with fail
  refine (N1.out _).mono ?_
  rintro e w2 ⟨rfl, rfl⟩
  have hsame := HS.out
  have d2 : decide (s.size < n) = false := decide_eq_false (by omega)
  go_wp2_with fail
  go_region_held3 (fun _ => True) (trivial) (first | (go_at_call 10; refine (HP.out _).mono ?_; rintro e w5 ⟨rfl, hw5⟩))
  have hb' := grows hw1.drew hw5
  go_wp2
  go_ret
  exact ⟨rfl, hb'⟩

theorem walk (s : ByteArray) (hs : s.size ≤ 140737488351232) (p : Int) (hp0 : -9223372036854775808 ≤ p) (hp1 : p ≤ 9223372036854775807) (w : World) :
    Calls Try.prog 7 #[.string s, .int .i64 p] w fun e w' => e = .returned (.bool true) ∧ Below w.heap.size w w' := by
  cases h : nextF s.data.toList p with
  | none => exact walk_no s hs p hp0 hp1 (Lib.hid h) w
  | some x =>
    obtain ⟨a, n⟩ := x
    have hx := next_lt h
    have hk := (next_back h).1
    obtain ⟨q, rfl⟩ := Int.eq_ofNat_of_zero_le hx.1
    rw [size_list, Int.toNat_natCast] at hx
    rw [Int.toNat_natCast] at hk
    refine walk_yes s hs q a n hp1 (Lib.hid h) (by omega) (by omega) _ (Lib.hid fun w => put_any _ (by rw [ByteArray.size_extract]; omega) w) (Lib.hid ?_) w
    rw [ext_list, hk, ← ext_list, str_of]

set_option maxRecDepth 100000 in
theorem lifted (os : Os) (started : os.Started) (H : Type) (enc : TypeId × Value → H) :
    ReturnsInHanded {} Try.checked os 7 .any (Rows.frameOnceSpec.pre6 enc Try.prog Try.f7 Rows.frameOnceRow.domain false) (Rows.frameOnceSpec.post enc Try.prog Try.f7 false true false false) := by
  refine returnsInHanded_of_change_sized (C := Try.checked) Ends.own started (by kernel_rfl) Try.func7
    (ChangeSpec.witness6 (enc := enc) (C := Try.checked) false ⟨#[], #[.string ⟨#[]⟩, .int .i64 0], []⟩ 8 (by kernel_rfl) (by kernel_rfl) (by kernel_rfl) (by kernel_rfl)) ?_
  intro W base args ds gs before hval0 hW _ hsz0 _
  have hval : ∀ (j : Nat) t v, Try.f7.params[j]? = some t → args[j]? = some v → Value.okWide Try.prog W .any base t v := hval0
  have hsz : (DataW.weightsEach Try.prog (Try.f7.params.toList ++ Rows.frameOnceSpec.plain.varTypes Try.prog) (ds ++ gs)).all (· ≤ reachBytes) = true := hsz0
  have hW' := hW
  obtain ⟨p, q, hA0, hV, rfl, hfz, hnd⟩ := hW
  have hA : DataW.TrodAll enc Try.prog W 0 (fun _ => true) true Try.f7.params.toList args.toList ds p := hA0
  rw [Try.params7] at hA hval hsz
  obtain ⟨v0, vs0, d0, ds0, p0, q0, hargs, rfl, rfl, h0, r0⟩ := trodAll_cons hA
  obtain ⟨v1, vs1, d1, ds1, p1, q1, rfl, rfl, rfl, h1, r1⟩ := trodAll_cons r0
  obtain ⟨rfl, rfl, rfl⟩ := trodAll_nil r1
  obtain rfl : args = #[v0, v1] := by cases args; simp_all
  obtain ⟨rfl, rfl⟩ := trodVars_none hV
  obtain ⟨a0, rfl, rfl, rfl, w0⟩ := Go.ChangeMaps.open_string Try.underlying9 (hval 0 9 v0 rfl rfl) h0
  obtain ⟨a1, rfl, rfl, rfl, w1⟩ := open_int Try.underlying3 (hval 1 3 v1 rfl rfl) h1
  have b0 : a0.size ≤ 140737488351232 := by have := sized_string hsz (j := 0) rfl rfl; rw [Array.length_toList] at this; exact this
  have b1 := bounds_i64 w1
  refine (walk a0 b0 a1 b1.1 b1.2 W).mono fun e W' ⟨he, hb⟩ => ?_
  subst he
  exact ⟨_, rfl, Ends.law_end Ends.laidOut (by rw [Try.params7]; decide +kernel) rfl (by kernel_rfl) Try.underlying4 hW' rfl hb⟩

/-- The statement. -/
theorem proved : Rows.FrameOnceSaid :=
  OpenClaim.holds_of_wide 7 Try.f7 rfl rfl rfl rfl rfl rfl rfl ⟨rfl, rfl, rfl, rfl, rfl⟩ rfl rfl rfl rfl rfl (by kernel_rfl) Try.func7 (by kernel_rfl)
    (of_decide_eq_true (by kernel_rfl)) (by unfold Func.isWrapper; first | (rw [if_pos (by decide +kernel)]; kernel_rfl) | (rw [if_neg (by decide +kernel)]; exact ⟨rfl, rfl⟩))
    (fun os started H enc _ => lifted os started H enc)
end Go.Proofs.Ytlifobfbaiabgaa.frameOnce
