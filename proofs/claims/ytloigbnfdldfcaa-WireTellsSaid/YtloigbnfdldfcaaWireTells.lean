/- Proved: demesnelaw01.WireTells answers true for every two numbers of 64 bits, every text, place and limit, and leaves them as they were. No condition. -/
import Derived.Test.YtloigbnfdldfcaaEnd
import Derived.Test.YtloigbnfdldfcaaExamples
import Derived.Test.YtloigbnfdldfcaaRefNum
namespace Go.Proofs.Ytloigbnfdldfcaa.wireTells
open Go.ChangeShapes Go.WideShapes Go.ChangeAt Go.RowKit
open Go.Proofs.Ytloigbnfdldfcaa.Wire Go.Proofs.Ytloigbnfdldfcaa.Num

set_option maxRecDepth 100000 in
set_option maxHeartbeats 4000000 in
theorem walk_any (a b p most n next fin c1 c2 c3 : Int) (s u x y : ByteArray) (ok got d1 d2 d3 : Bool)
    (G : Hid (∀ w, Calls Try.prog 10 #[.string s, .int .i64 p] w fun e w' => e = .returned (.tuple #[.int .u64 n, .int .i64 next, .bool ok]) ∧ Below w.heap.size w w'))
    (RG : Hid (∀ w, Calls Try.prog 11 #[.string s, .int .i64 p] w fun e w' => e = .returned (.tuple #[.int .u64 n, .int .i64 next, .bool ok]) ∧ w = w'))
    (T : Hid (∀ w, Calls Try.prog 12 #[.string s, .int .i64 p, .int .i64 most] w fun e w' => e = .returned (.tuple #[.string u, .int .i64 fin, .bool got]) ∧ Below w.heap.size w w'))
    (RT : Hid (∀ w, Calls Try.prog 13 #[.string s, .int .i64 p, .int .i64 most] w fun e w' => e = .returned (.tuple #[.string u, .int .i64 fin, .bool got]) ∧ w = w'))
    (P : Hid (∀ w, Calls Try.prog 14 #[.int .u64 a] w fun e w' => e = .returned (.string x) ∧ Below w.heap.size w w'))
    (RP : Hid (∀ w, Calls Try.prog 15 #[.int .u64 a] w fun e w' => e = .returned (.string x) ∧ Below w.heap.size w w'))
    (X : Hid (∀ w, Calls Try.prog 16 #[.string s] w fun e w' => e = .returned (.string y) ∧ Below w.heap.size w w'))
    (RX : Hid (∀ w, Calls Try.prog 17 #[.string s] w fun e w' => e = .returned (.string y) ∧ Below w.heap.size w w'))
    (A : Hid (∀ w, Calls Try.prog 18 #[.int .u64 a, .int .u64 b] w fun e w' => e = .returned (.tuple #[.int .u64 c1, .bool d1]) ∧ w = w'))
    (RA : Hid (∀ w, Calls Try.prog 19 #[.int .u64 a, .int .u64 b] w fun e w' => e = .returned (.tuple #[.int .u64 c1, .bool d1]) ∧ w = w'))
    (S : Hid (∀ w, Calls Try.prog 20 #[.int .u64 a, .int .u64 b] w fun e w' => e = .returned (.tuple #[.int .u64 c2, .bool d2]) ∧ w = w'))
    (RS : Hid (∀ w, Calls Try.prog 21 #[.int .u64 a, .int .u64 b] w fun e w' => e = .returned (.tuple #[.int .u64 c2, .bool d2]) ∧ w = w'))
    (M : Hid (∀ w, Calls Try.prog 22 #[.int .u64 a, .int .u64 b] w fun e w' => e = .returned (.tuple #[.int .u64 c3, .bool d3]) ∧ w = w'))
    (RM : Hid (∀ w, Calls Try.prog 23 #[.int .u64 a, .int .u64 b] w fun e w' => e = .returned (.tuple #[.int .u64 c3, .bool d3]) ∧ w = w')) (w : World) :
    Calls Try.prog 3 #[.int .u64 a, .int .u64 b, .string s, .int .i64 p, .int .i64 most] w fun e w' => e = .returned (.bool true) ∧ Below w.heap.size w w' := by
  go_enter Try.func3, Try.ntmps3
  go_wp2_with fail
  refine (examples_any _).mono ?_
  rintro e w1 ⟨rfl, hb⟩
  go_wp2_with fail
  refine (G.out _).mono ?_
  rintro e w2 ⟨rfl, hw⟩
  have hb2 := grows hb hw
  clear hw hb
  go_wp2_with fail
  refine (RG.out _).mono ?_
  rintro e w' ⟨rfl, rfl⟩
  go_wp2_with fail
  refine (T.out _).mono ?_
  rintro e w3 ⟨rfl, hw⟩
  have hb3 := grows hb2 hw
  clear hw hb2
  go_wp2_with fail
  refine (RT.out _).mono ?_
  rintro e w' ⟨rfl, rfl⟩
  go_wp2_with fail
  refine (P.out _).mono ?_
  rintro e w4 ⟨rfl, hw⟩
  have hb4 := grows hb3 hw
  clear hw hb3
  go_wp2_with fail
  refine (RP.out _).mono ?_
  rintro e w5 ⟨rfl, hw⟩
  have hb5 := grows hb4 hw
  clear hw hb4
  go_wp2_with fail
  refine (X.out _).mono ?_
  rintro e w6 ⟨rfl, hw⟩
  have hb6 := grows hb5 hw
  clear hw hb5
  go_wp2_with fail
  refine (RX.out _).mono ?_
  rintro e w7 ⟨rfl, hw⟩
  have hb7 := grows hb6 hw
  clear hw hb6
  go_wp2_with fail
  refine (A.out _).mono ?_
  rintro e w' ⟨rfl, rfl⟩
  go_wp2_with fail
  refine (RA.out _).mono ?_
  rintro e w' ⟨rfl, rfl⟩
  go_wp2_with fail
  refine (S.out _).mono ?_
  rintro e w' ⟨rfl, rfl⟩
  go_wp2_with fail
  refine (RS.out _).mono ?_
  rintro e w' ⟨rfl, rfl⟩
  go_wp2_with fail
  refine (M.out _).mono ?_
  rintro e w' ⟨rfl, rfl⟩
  go_wp2_with fail
  refine (RM.out _).mono ?_
  rintro e w' ⟨rfl, rfl⟩
  go_wp2
  go_ret
  exact ⟨rfl, hb7⟩

/-- Both Gets hand back the same. -/
theorem both_get (s : ByteArray) (hs : s.size ≤ 140737488351232) (p : Int) : ∃ (n next : Int) (ok : Bool),
    (∀ w, Calls Try.prog 10 #[.string s, .int .i64 p] w fun e w' => e = .returned (.tuple #[.int .u64 n, .int .i64 next, .bool ok]) ∧ Below w.heap.size w w') ∧
    (∀ w, Calls Try.prog 11 #[.string s, .int .i64 p] w fun e w' => e = .returned (.tuple #[.int .u64 n, .int .i64 next, .bool ok]) ∧ w = w') := by
  cases h : getV s.data.toList p with
  | none => exact ⟨0, 0, false, get_no s (by omega) p h, refGet_no s (by omega) p h⟩
  | some x => exact ⟨x.1, x.2, true, get_yes s (by omega) p x.1 x.2 h, refGet_yes s (by omega) p x.1 x.2 h⟩
/-- Both GetTexts do. -/
theorem both_text (s : ByteArray) (hs : s.size ≤ 140737488351232) (p most : Int) (hm : most ≤ 9223372036854775807) : ∃ (u : ByteArray) (fin : Int) (got : Bool),
    (∀ w, Calls Try.prog 12 #[.string s, .int .i64 p, .int .i64 most] w fun e w' => e = .returned (.tuple #[.string u, .int .i64 fin, .bool got]) ∧ Below w.heap.size w w') ∧
    (∀ w, Calls Try.prog 13 #[.string s, .int .i64 p, .int .i64 most] w fun e w' => e = .returned (.tuple #[.string u, .int .i64 fin, .bool got]) ∧ w = w') := by
  cases h : textV s.data.toList p most with
  | none => exact ⟨⟨#[]⟩, 0, false, text_no s (by omega) p most hm h, refText_no s (by omega) p most hm h⟩
  | some x => exact ⟨s.extract x.1 x.2, x.2, true, text_yes s (by omega) p most hm x.1 x.2 h, refText_yes s (by omega) p most hm x.1 x.2 h⟩

theorem walk (a : Int) (ha : 0 ≤ a) (ha' : a ≤ 18446744073709551615) (b : Int) (hb : 0 ≤ b) (hb' : b ≤ 18446744073709551615) (s : ByteArray) (hs : s.size ≤ 140737488351232) (p : Int) (_ : -9223372036854775808 ≤ p) (_ : p ≤ 9223372036854775807) (most : Int) (_ : -9223372036854775808 ≤ most) (hm : most ≤ 9223372036854775807) (w : World) :
    Calls Try.prog 3 #[.int .u64 a, .int .u64 b, .string s, .int .i64 p, .int .i64 most] w fun e w' => e = .returned (.bool true) ∧ Below w.heap.size w w' := by
  obtain ⟨n, next, ok, g1, g2⟩ := both_get s hs p
  obtain ⟨u, fin, got, t1, t2⟩ := both_text s hs p most hm
  obtain ⟨c1, d1, x1, y1⟩ := both_add a b ha hb ha' hb'
  obtain ⟨c2, d2, x2, y2⟩ := both_sub a b ha hb ha'
  obtain ⟨c3, d3, x3, y3⟩ := both_mul a b ha hb ha' hb'
  obtain ⟨x, rfl⟩ := Int.eq_ofNat_of_zero_le ha
  exact walk_any x b p most n next fin c1 c2 c3 s u _ _ ok got d1 d2 d3 g1 g2 t1 t2 (put_any x (by omega)) (refPut_any x (by omega)) (putText_any s (by omega)) (refPutText_any s (by omega)) x1 y1 x2 y2 x3 y3 w

set_option maxRecDepth 100000 in
theorem lifted (os : Os) (started : os.Started) (H : Type) (enc : TypeId × Value → H) :
    ReturnsInHanded {} Try.checked os 3 .any (Rows.wireTellsSpec.pre6 enc Try.prog Try.f3 Rows.wireTellsRow.domain false) (Rows.wireTellsSpec.post enc Try.prog Try.f3 false true false false) := by
  refine returnsInHanded_of_change_sized (C := Try.checked) Ends.own started (by kernel_rfl) Try.func3
    (ChangeSpec.witness6 (enc := enc) (C := Try.checked) false ⟨#[], #[.int .u64 0, .int .u64 0, .string ⟨#[]⟩, .int .i64 0, .int .i64 0], []⟩ 8 (by kernel_rfl) (by kernel_rfl) (by kernel_rfl) (by kernel_rfl)) ?_
  intro W base args ds gs before hval0 hW _ hsz0 _
  have hval : ∀ (j : Nat) t v, Try.f3.params[j]? = some t → args[j]? = some v → Value.okWide Try.prog W .any base t v := hval0
  have hsz : (DataW.weightsEach Try.prog (Try.f3.params.toList ++ Rows.wireTellsSpec.plain.varTypes Try.prog) (ds ++ gs)).all (· ≤ reachBytes) = true := hsz0
  have hW' := hW
  obtain ⟨p, q, hA0, hV, rfl, hfz, hnd⟩ := hW
  have hA : DataW.TrodAll enc Try.prog W 0 (fun _ => true) true Try.f3.params.toList args.toList ds p := hA0
  rw [Try.params3] at hA hval hsz
  obtain ⟨v0, vs0, d0, ds0, p0, q0, hargs, rfl, rfl, h0, r0⟩ := trodAll_cons hA
  obtain ⟨v1, vs1, d1, ds1, p1, q1, rfl, rfl, rfl, h1, r1⟩ := trodAll_cons r0
  obtain ⟨v2, vs2, d2, ds2, p2, q2, rfl, rfl, rfl, h2, r2⟩ := trodAll_cons r1
  obtain ⟨v3, vs3, d3, ds3, p3, q3, rfl, rfl, rfl, h3, r3⟩ := trodAll_cons r2
  obtain ⟨v4, vs4, d4, ds4, p4, q4, rfl, rfl, rfl, h4, r4⟩ := trodAll_cons r3
  obtain ⟨rfl, rfl, rfl⟩ := trodAll_nil r4
  obtain rfl : args = #[v0, v1, v2, v3, v4] := by cases args; simp_all
  obtain ⟨rfl, rfl⟩ := trodVars_none hV
  obtain ⟨a0, rfl, rfl, rfl, w0⟩ := open_int Try.underlying22 (hval 0 22 v0 rfl rfl) h0
  obtain ⟨a1, rfl, rfl, rfl, w1⟩ := open_int Try.underlying22 (hval 1 22 v1 rfl rfl) h1
  obtain ⟨a2, rfl, rfl, rfl, w2⟩ := Go.ChangeMaps.open_string Try.underlying9 (hval 2 9 v2 rfl rfl) h2
  obtain ⟨a3, rfl, rfl, rfl, w3⟩ := open_int Try.underlying3 (hval 3 3 v3 rfl rfl) h3
  obtain ⟨a4, rfl, rfl, rfl, w4⟩ := open_int Try.underlying3 (hval 4 3 v4 rfl rfl) h4
  have b0 := bounds_u64 w0
  have b1 := bounds_u64 w1
  have b2 : a2.size ≤ 140737488351232 := by have := sized_string hsz (j := 2) rfl rfl; rw [Array.length_toList] at this; exact this
  have b3 := bounds_i64 w3
  have b4 := bounds_i64 w4
  refine (walk a0 b0.1 b0.2 a1 b1.1 b1.2 a2 b2 a3 b3.1 b3.2 a4 b4.1 b4.2 W).mono fun e W' ⟨he, hb⟩ => ?_
  subst he
  exact ⟨_, rfl, Ends.law_end Ends.laidOut (by rw [Try.params3]; decide +kernel) rfl (by kernel_rfl) Try.underlying4 hW' rfl hb⟩

/-- The statement. -/
theorem proved : Rows.WireTellsSaid :=
  OpenClaim.holds_of_wide 3 Try.f3 rfl rfl rfl rfl rfl rfl rfl ⟨rfl, rfl, rfl, rfl, rfl⟩ rfl rfl rfl rfl rfl (by kernel_rfl) Try.func3 (by kernel_rfl)
    (of_decide_eq_true (by kernel_rfl)) (by unfold Func.isWrapper; first | (rw [if_pos (by decide +kernel)]; kernel_rfl) | (rw [if_neg (by decide +kernel)]; exact ⟨rfl, rfl⟩))
    (fun os started H enc _ => lifted os started H enc)
end Go.Proofs.Ytloigbnfdldfcaa.wireTells
