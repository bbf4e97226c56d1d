/- Proved: demesnelaw04.LabelTorn answers true for every slice of bytes and every byte, and leaves them as they were. No condition. -/
import Derived.Test.YtpkaejacnblplaaEnd
import Derived.Test.YtpkaejacnblplaaLMade
namespace Go.Proofs.Ytpkaejacnblplaa.labelTorn
open Go.RowKit Go.Proofs.Ytpkaejacnblplaa.Args Go.Proofs.Ytpkaejacnblplaa.Label

set_option maxRecDepth 100000 in
set_option maxHeartbeats 4000000 in
theorem walk (v : Value) (bs : List UInt8) (c : Int) (hc0 : 0 ≤ c) (hc1 : c ≤ 255) (w : World) (hv : Bytes w v bs) :
    Calls Try.prog 8 #[v, .int .u8 c] w fun e w' => e = .returned (.bool true) ∧ Below w.heap.size w w' := by
  obtain ⟨c, rfl⟩ := Int.eq_ofNat_of_zero_le hc0
  have HV := Lib.hid hv
  have hr := made_right bs
  obtain ⟨A, hA⟩ : ∃ A, A = madeL bs := ⟨_, rfl⟩
  have HM : Hid (∀ w1, Below w.heap.size w w1 → Calls Try.prog 24 #[v] w1 fun e w' => (∃ u, e = .returned u ∧ Row w' u A) ∧ Below w1.heap.size w1 w') := Lib.hid fun w1 hb => by rw [hA]; exact made_any v bs w1 (HV.out.below hb)
  rw [← hA] at hr
  have h8 := (rightL_parts hr).1
  have HPu : Hid (∀ u w1, Row w1 u A → Calls Try.prog 20 #[u] w1 fun e w' => e = .returned (.string (putP A)) ∧ Below w1.heap.size w1 w') := Lib.hid fun u w1 h => put_rows u A w1 h (by omega)
  have hq1 := putP_pos hr
  have hq2 := putP_le (a := A)
  have HG2 : Hid (∀ w, Calls Try.prog 13 #[.string (putP A), .int .i64 ((putP A).size : Int)] w (TellsG none w)) := Lib.hid fun w => by rw [← get_none_behind (s := putP A) (p := ((putP A).size : Int)) (.inr (Int.le_refl _))]; exact get_rows _ (by omega) _ w
  have HG3 : Hid (∀ w, Calls Try.prog 13 #[.string (putP A), .int .i64 (-1)] w (TellsG none w)) := Lib.hid fun w => by rw [← get_none_behind (s := putP A) (p := -1) (.inl (by omega))]; exact get_rows _ (by omega) _ w
  have HG4 : Hid (∀ w, Calls Try.prog 13 #[.string (putP A ++ ⟨#[0]⟩), .int .i64 0] w (TellsG (some (A, ((putP A).size : Int))) w)) := Lib.hid fun w => by
    have := get_put (s := putP A ++ ⟨#[0]⟩) (p := 0) (r := [0]) hr (by simp)
    rw [Nat.zero_add] at this
    rw [← this]
    exact get_rows _ (by rw [ByteArray.size_append]; show (putP A).size + 1 ≤ _; omega) _ w
  have HG1 : Hid (∀ k : Nat, k < (putP A).size → ∀ w, Calls Try.prog 13 #[.string ((putP A).extract 0 k), .int .i64 0] w (TellsG none w)) := Lib.hid fun k hk w => by rw [← get_torn hr hk]; exact get_rows _ (by rw [ByteArray.size_extract]; omega) _ w
  have hne : (putP A).toList ≠ [] := by rw [Lib.toList_data]; intro h; have h1 := Word.size_list (putP A); rw [h] at h1; rw [← h1] at hq1; exact absurd hq1 (Nat.lt_irrefl _)
  obtain ⟨q, hq⟩ : ∃ q, q = putP A := ⟨_, rfl⟩
  rw [← hq] at HPu HG1 HG2 HG3 HG4 hq1 hq2 hne
  have hem : q.toList.isEmpty = false := by cases h : q.toList with
    | nil => exact absurd h hne
    | cons _ _ => rfl
  clear hq hA hr hv hc0
  obtain ⟨m, hm⟩ : ∃ m, m = c % q.size := ⟨_, rfl⟩
  have hml : m < q.size := by rw [hm]; exact Nat.mod_lt _ hq1
  have htm : (c : Int).tmod (q.size : Int) = (m : Int) := by rw [hm]; rfl
  clear hm
  go_enter Try.func8, Try.ntmps8
  go_wp2_with fail
  refine (examples_any _).mono ?_
  rintro e w1 ⟨rfl, hw1⟩
  go_wp2_with fail
  refine (HM.out _ hw1).mono ?_
  rintro e w2 ⟨⟨u, rfl, hu⟩, hw2⟩
  have hb := grows hw1 hw2
  go_wp2_with fail
  refine (HPu.out _ _ hu).mono ?_
  rintro e w3 ⟨rfl, hw3⟩
  have HU := Lib.hid (hu.below hw3)
  have hb' := grows hb hw3
  clear hb hw1 hw2 hw3 hu
  go_wp2_with fail
  refine (HG1.out (q.size - 1 - m) (by omega) _).mono ?_
  rintro e w4 ⟨rfl, hw4⟩
  go_wp2_with fail
  refine (HG2.out _).mono ?_
  rintro e w5 ⟨rfl, hw5⟩
  go_wp2_with fail
  refine (HG3.out _).mono ?_
  rintro e w6 ⟨rfl, hw6⟩
  go_wp2_with fail
  refine (HG4.out _).mono ?_
  rintro e w7 ⟨⟨x, rfl, hx⟩, hw7⟩
  have hb := grows hb' (grows (grows (grows hw4 hw5) hw6) hw7)
  have HU7 := Lib.hid (HU.out.below (grows (grows (grows hw4 hw5) hw6) hw7))
  have HX := Lib.hid hx
  clear hw4 hw5 hw6 hw7 hx hb' HU
  have HS : Hid (Calls Try.prog 25 #[x, u] w7 fun e w' => e = .returned (.bool true) ∧ Below w7.heap.size w7 w') := Lib.hid (by
    have := same_rows x u A A w7 HX.out HU7.out (by omega)
    rw [decide_eq_true rfl] at this
    exact this)
  go_wp2_with fail
  refine HS.out.mono ?_
  rintro e w8 ⟨rfl, hw8⟩
  have hb' := grows hb hw8
  go_wp2
  go_ret
  exact ⟨rfl, hb'⟩

open Go.ChangeShapes Go.WideShapes Go.ChangeAt
set_option maxRecDepth 100000 in
theorem lifted (os : Os) (started : os.Started) (H : Type) (enc : TypeId × Value → H) :
    ReturnsInHanded {} Try.checked os 8 .any (Rows.labelTornSpec.pre6 enc Try.prog Try.f8 Rows.labelTornRow.domain false) (Rows.labelTornSpec.post enc Try.prog Try.f8 false true false false) := by
  refine returnsInHanded_of_change_sized (C := Try.checked) Ends.own started (by kernel_rfl) Try.func8
    (ChangeSpec.witness6 (enc := enc) (C := Try.checked) false ⟨#[], #[.slice none 0 0, .int .u8 0], []⟩ 8 (by kernel_rfl) (by kernel_rfl) (by kernel_rfl) (by kernel_rfl)) ?_
  intro W base args ds gs before hval0 hW _ _ _
  have hval : ∀ (j : Nat) t v, Try.f8.params[j]? = some t → args[j]? = some v → Value.okWide Try.prog W .any base t v := hval0
  have hW' := hW
  obtain ⟨p, q, hA0, hV, rfl, hfz, hnd⟩ := hW
  have hA : DataW.TrodAll enc Try.prog W 0 (fun _ => true) true Try.f8.params.toList args.toList ds p := hA0
  rw [Try.params8] at hA hval
  obtain ⟨v0, vs0, d0, ds0, p0, q0, hargs, rfl, rfl, h0, r0⟩ := trodAll_cons hA
  obtain ⟨v1, vs1, d1, ds1, p1, q1, rfl, rfl, rfl, h1, r1⟩ := trodAll_cons r0
  obtain ⟨rfl, rfl, rfl⟩ := trodAll_nil r1
  obtain rfl : args = #[v0, v1] := by cases args; simp_all
  obtain ⟨rfl, rfl⟩ := trodVars_none hV
  obtain ⟨a0, w0⟩ := Args.open_bytes Try.underlying43 Try.underlying5 (by kernel_rfl) (hval 0 43 v0 rfl rfl) h0
  obtain ⟨a1, rfl, rfl, rfl, w1⟩ := open_int Try.underlying5 (hval 1 5 v1 rfl rfl) h1
  have b1 := bounds_u8 w1
  refine (walk v0 a0 a1 b1.1 b1.2 W w0).mono fun e W' ⟨he, hb⟩ => ?_
  subst he
  exact ⟨_, rfl, Ends.law_end Ends.laidOut (by rw [Try.params8]; decide +kernel) rfl (by kernel_rfl) Try.underlying4 hW' rfl hb⟩

/-- The statement. -/
theorem proved : Rows.LabelTornSaid :=
  OpenClaim.holds_of_wide 8 Try.f8 rfl rfl rfl rfl rfl rfl rfl ⟨rfl, rfl, rfl, rfl, rfl⟩ rfl rfl rfl rfl rfl (by kernel_rfl) Try.func8 (by kernel_rfl)
    (of_decide_eq_true (by kernel_rfl)) (by unfold Func.isWrapper; first | (rw [if_pos (by decide +kernel)]; kernel_rfl) | (rw [if_neg (by decide +kernel)]; exact ⟨rfl, rfl⟩))
    (fun os started H enc _ => lifted os started H enc)
end Go.Proofs.Ytpkaejacnblplaa.labelTorn
