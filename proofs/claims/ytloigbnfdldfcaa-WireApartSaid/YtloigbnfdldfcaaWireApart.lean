/- Proved: demesnelaw01.WireApart answers true for every two numbers of 64 bits and every two texts, and leaves them as they were. No condition. -/
import Derived.Test.YtloigbnfdldfcaaEnd
import Derived.Test.YtloigbnfdldfcaaExamples
namespace Go.Proofs.Ytloigbnfdldfcaa.wireApart
open Go.ChangeShapes Go.WideShapes Go.ChangeAt Go.RowKit
open Go.Proofs.Ytloigbnfdldfcaa.Wire Go.Proofs.Ytloigbnfdldfcaa.Num

/-- Of two forms none is the other, and the first one is no beginning of the second. -/
def Apart (p q : ByteArray) : Prop := (p.toList == q.toList) = false ∧ ((p.size ≤ q.size ∧ ((q.extract 0 p.size).toList == p.toList) = false) ∨ q.size < p.size)

theorem apart_of {p q : ByteArray} (h : ∀ r, q.data.toList ≠ p.data.toList ++ r) : Apart p q := by
  refine ⟨?_, ?_⟩
  · rw [beq_eq_false_iff_ne, Lib.toList_data, Lib.toList_data]
    intro e
    exact h [] (by rw [e, List.append_nil])
  · by_cases hl : p.size ≤ q.size
    · refine Or.inl ⟨hl, ?_⟩
      rw [beq_eq_false_iff_ne, Lib.toList_data, Lib.toList_data, Lib.extract_data]
      intro e
      refine h (q.data.toList.drop p.size) ?_
      rw [← e, List.drop_zero, Nat.sub_zero, List.take_append_drop]
    · exact Or.inr (by omega)
theorem apart_nums {x y : Nat} (h : x ≠ y) : Apart (str (putL x)) (str (putL y)) :=
  apart_of fun r e => by
    rw [str_toList, str_toList] at e
    exact h (putL_begins e).1
theorem text_list (s : ByteArray) : (str (putL s.size) ++ s).data.toList = putL s.size ++ s.data.toList := by
  rw [ByteArray.data_append, Array.toList_append, str_toList]
theorem apart_texts {s t : ByteArray} (h : s.data.toList ≠ t.data.toList) : Apart (str (putL s.size) ++ s) (str (putL t.size) ++ t) :=
  apart_of fun r e => by
    rw [text_list, text_list, List.append_assoc] at e
    have he := putL_same e
    have hl := congrArg List.length he.2
    rw [List.length_append, size_list, size_list] at hl
    have hr : r = [] := List.length_eq_zero_iff.1 (by omega)
    rw [hr, List.append_nil] at he
    exact h he.2.symm
theorem text_size (s : ByteArray) (hs : s.size ≤ 140737488351232) : (str (putL s.size) ++ s).size ≤ 140737488351242 := by
  have := putL_ten (u := s.size) (by omega)
  rw [ByteArray.size_append, str_size]
  omega

set_option maxRecDepth 100000 in
set_option maxHeartbeats 4000000 in
theorem walk_any (a b : Int) (s t p q x y : ByteArray) (_hp : p.size ≤ 4611686018427387904) (_hq : q.size ≤ 4611686018427387904) (_hx : x.size ≤ 4611686018427387904) (_hy : y.size ≤ 4611686018427387904)
    (HP : Hid (∀ w, Calls Try.prog 14 #[.int .u64 a] w fun e w' => e = .returned (.string p) ∧ Below w.heap.size w w'))
    (HQ : Hid (∀ w, Calls Try.prog 14 #[.int .u64 b] w fun e w' => e = .returned (.string q) ∧ Below w.heap.size w w'))
    (HX : Hid (∀ w, Calls Try.prog 16 #[.string s] w fun e w' => e = .returned (.string x) ∧ Below w.heap.size w w'))
    (HY : Hid (∀ w, Calls Try.prog 16 #[.string t] w fun e w' => e = .returned (.string y) ∧ Below w.heap.size w w'))
    (H1 : Hid ((a != b) = false ∨ (a != b) = true ∧ Apart p q)) (H2 : Hid ((s.toList == t.toList) = true ∨ (s.toList == t.toList) = false ∧ Apart x y)) (w : World) :
    Calls Try.prog 8 #[.int .u64 a, .int .u64 b, .string s, .string t] w fun e w' => e = .returned (.bool true) ∧ Below w.heap.size w w' := by
  go_enter Try.func8, Try.ntmps8
  go_wp2_with fail
  refine (examples_any _).mono ?_
  rintro e w1 ⟨rfl, hw1⟩
  go_wp2_with fail
  refine (HP.out _).mono ?_
  rintro e w2 ⟨rfl, hw2⟩
  go_wp2_with fail
  refine (HQ.out _).mono ?_
  rintro e w3 ⟨rfl, hw3⟩
  go_wp2_with fail
  refine (HX.out _).mono ?_
  rintro e w4 ⟨rfl, hw4⟩
  go_wp2_with fail
  refine (HY.out _).mono ?_
  rintro e w5 ⟨rfl, hw5⟩
  have hb := grows (grows (grows (grows hw1 hw2) hw3) hw4) hw5
  clear hw1 hw2 hw3 hw4 hw5
  have h1 := H1.out
  have h2 := H2.out
  rcases h1 with h1 | ⟨h1, h3, ⟨h4, h5⟩ | h4⟩ <;> rcases h2 with h2 | ⟨h2, h6, ⟨h7, h8⟩ | h7⟩
  all_goals go_wp2
  all_goals go_ret
  all_goals exact ⟨rfl, hb⟩

theorem walk (a : Int) (ha : 0 ≤ a) (ha' : a ≤ 18446744073709551615) (b : Int) (hb : 0 ≤ b) (hb' : b ≤ 18446744073709551615) (s : ByteArray) (hs : s.size ≤ 140737488351232) (t : ByteArray) (ht : t.size ≤ 140737488351232) (w : World) :
    Calls Try.prog 8 #[.int .u64 a, .int .u64 b, .string s, .string t] w fun e w' => e = .returned (.bool true) ∧ Below w.heap.size w w' := by
  obtain ⟨x, rfl⟩ := Int.eq_ofNat_of_zero_le ha
  obtain ⟨y, rfl⟩ := Int.eq_ofNat_of_zero_le hb
  have hx := putL_ten (u := x) (by omega)
  have hy := putL_ten (u := y) (by omega)
  have hxs := str_size (putL x)
  have hys := str_size (putL y)
  have h1 := text_size s hs
  have h2 := text_size t ht
  refine walk_any x y s t (str (putL x)) (str (putL y)) _ _ (by omega) (by omega) (by omega) (by omega) (put_any x (by omega)) (put_any y (by omega)) (putText_any s (by omega)) (putText_any t (by omega)) ?_ ?_ w
  · by_cases h : x = y
    · exact Or.inl (by rw [h]; simp)
    · exact Or.inr ⟨by rw [bne_iff_ne]; omega, apart_nums h⟩
  · by_cases h : s.data.toList = t.data.toList
    · exact Or.inl (by rw [Lib.toList_data, Lib.toList_data, h]; simp)
    · exact Or.inr ⟨by rw [beq_eq_false_iff_ne, Lib.toList_data, Lib.toList_data]; exact h, apart_texts h⟩

set_option maxRecDepth 100000 in
theorem lifted (os : Os) (started : os.Started) (H : Type) (enc : TypeId × Value → H) :
    ReturnsInHanded {} Try.checked os 8 .any (Rows.wireApartSpec.pre6 enc Try.prog Try.f8 Rows.wireApartRow.domain false) (Rows.wireApartSpec.post enc Try.prog Try.f8 false true false false) := by
  refine returnsInHanded_of_change_sized (C := Try.checked) Ends.own started (by kernel_rfl) Try.func8
    (ChangeSpec.witness6 (enc := enc) (C := Try.checked) false ⟨#[], #[.int .u64 0, .int .u64 0, .string ⟨#[]⟩, .string ⟨#[]⟩], []⟩ 8 (by kernel_rfl) (by kernel_rfl) (by kernel_rfl) (by kernel_rfl)) ?_
  intro W base args ds gs before hval0 hW _ hsz0 _
  have hval : ∀ (j : Nat) t v, Try.f8.params[j]? = some t → args[j]? = some v → Value.okWide Try.prog W .any base t v := hval0
  have hsz : (DataW.weightsEach Try.prog (Try.f8.params.toList ++ Rows.wireApartSpec.plain.varTypes Try.prog) (ds ++ gs)).all (· ≤ reachBytes) = true := hsz0
  have hW' := hW
  obtain ⟨p, q, hA0, hV, rfl, hfz, hnd⟩ := hW
  have hA : DataW.TrodAll enc Try.prog W 0 (fun _ => true) true Try.f8.params.toList args.toList ds p := hA0
  rw [Try.params8] at hA hval hsz
  obtain ⟨v0, vs0, d0, ds0, p0, q0, hargs, rfl, rfl, h0, r0⟩ := trodAll_cons hA
  obtain ⟨v1, vs1, d1, ds1, p1, q1, rfl, rfl, rfl, h1, r1⟩ := trodAll_cons r0
  obtain ⟨v2, vs2, d2, ds2, p2, q2, rfl, rfl, rfl, h2, r2⟩ := trodAll_cons r1
  obtain ⟨v3, vs3, d3, ds3, p3, q3, rfl, rfl, rfl, h3, r3⟩ := trodAll_cons r2
  obtain ⟨rfl, rfl, rfl⟩ := trodAll_nil r3
  obtain rfl : args = #[v0, v1, v2, v3] := by cases args; simp_all
  obtain ⟨rfl, rfl⟩ := trodVars_none hV
  obtain ⟨a0, rfl, rfl, rfl, w0⟩ := open_int Try.underlying22 (hval 0 22 v0 rfl rfl) h0
  obtain ⟨a1, rfl, rfl, rfl, w1⟩ := open_int Try.underlying22 (hval 1 22 v1 rfl rfl) h1
  obtain ⟨a2, rfl, rfl, rfl, w2⟩ := Go.ChangeMaps.open_string Try.underlying9 (hval 2 9 v2 rfl rfl) h2
  obtain ⟨a3, rfl, rfl, rfl, w3⟩ := Go.ChangeMaps.open_string Try.underlying9 (hval 3 9 v3 rfl rfl) h3
  have b0 := bounds_u64 w0
  have b1 := bounds_u64 w1
  have b2 : a2.size ≤ 140737488351232 := by have := sized_string hsz (j := 2) rfl rfl; rw [Array.length_toList] at this; exact this
  have b3 : a3.size ≤ 140737488351232 := by have := sized_string hsz (j := 3) rfl rfl; rw [Array.length_toList] at this; exact this
  refine (walk a0 b0.1 b0.2 a1 b1.1 b1.2 a2 b2 a3 b3 W).mono fun e W' ⟨he, hb⟩ => ?_
  subst he
  exact ⟨_, rfl, Ends.law_end Ends.laidOut (by rw [Try.params8]; decide +kernel) rfl (by kernel_rfl) Try.underlying4 hW' rfl hb⟩

/-- The statement. -/
theorem proved : Rows.WireApartSaid :=
  OpenClaim.holds_of_wide 8 Try.f8 rfl rfl rfl rfl rfl rfl rfl ⟨rfl, rfl, rfl, rfl, rfl⟩ rfl rfl rfl rfl rfl (by kernel_rfl) Try.func8 (by kernel_rfl)
    (of_decide_eq_true (by kernel_rfl)) (by unfold Func.isWrapper; first | (rw [if_pos (by decide +kernel)]; kernel_rfl) | (rw [if_neg (by decide +kernel)]; exact ⟨rfl, rfl⟩))
    (fun os started H enc _ => lifted os started H enc)
end Go.Proofs.Ytloigbnfdldfcaa.wireApart
