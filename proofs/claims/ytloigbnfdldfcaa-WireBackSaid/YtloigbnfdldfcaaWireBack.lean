/- Proved: demesnelaw01.WireBack answers true for every two numbers of 64 bits, every text, and whatever bytes ahead and behind, and leaves them as they were. No condition. -/
import Derived.Test.YtloigbnfdldfcaaEnd
import Derived.Test.YtloigbnfdldfcaaExamples
namespace Go.Proofs.Ytloigbnfdldfcaa.wireBack
open Go.ChangeShapes Go.WideShapes Go.ChangeAt Go.RowKit
open Go.Proofs.Ytloigbnfdldfcaa.Wire Go.Proofs.Ytloigbnfdldfcaa.Num

set_option maxRecDepth 100000 in
set_option maxHeartbeats 4000000 in
theorem walk_any (a b : Int) (t ahead behind p x q t' : ByteArray) (m1 m2 m3 : Nat) (_ht : t.size ≤ 140737488351232) (_ha : ahead.size ≤ 140737488351232) (_hb : behind.size ≤ 140737488351232) (_hp : p.size ≤ 10) (_hx : x.size ≤ 140737488351242) (_hq : q.size ≤ 10)
    (HP : Hid (∀ w, Calls Try.prog 14 #[.int .u64 a] w fun e w' => e = .returned (.string p) ∧ Below w.heap.size w w'))
    (HQ : Hid (∀ w, Calls Try.prog 14 #[.int .u64 b] w fun e w' => e = .returned (.string q) ∧ Below w.heap.size w w'))
    (HX : Hid (∀ w, Calls Try.prog 16 #[.string t] w fun e w' => e = .returned (.string x) ∧ Below w.heap.size w w'))
    (G1 : Hid (∀ w, Calls Try.prog 10 #[.string (ahead ++ p ++ x ++ q ++ behind), .int .i64 ahead.size] w fun e w' => e = .returned (.tuple #[.int .u64 a, .int .i64 m1, .bool true]) ∧ Below w.heap.size w w'))
    (T1 : Hid (∀ w, Calls Try.prog 12 #[.string (ahead ++ p ++ x ++ q ++ behind), .int .i64 m1, .int .i64 t.size] w fun e w' => e = .returned (.tuple #[.string t', .int .i64 m2, .bool true]) ∧ Below w.heap.size w w'))
    (G2 : Hid (∀ w, Calls Try.prog 10 #[.string (ahead ++ p ++ x ++ q ++ behind), .int .i64 m2] w fun e w' => e = .returned (.tuple #[.int .u64 b, .int .i64 m3, .bool true]) ∧ Below w.heap.size w w'))
    (T2 : Hid (∀ w, Calls Try.prog 12 #[.string (ahead ++ p ++ x ++ q ++ behind), .int .i64 m1, .int .i64 ((t.size : Int) - 1)] w fun e w' => e = .returned (.tuple #[.string ⟨#[]⟩, .int .i64 0, .bool false]) ∧ Below w.heap.size w w'))
    (ht' : (t'.toList == t.toList) = true) (hm3 : m3 ≤ ahead.size + p.size + x.size + q.size) (hm3' : ahead.size + p.size + x.size + q.size ≤ m3) (w : World) :
    Calls Try.prog 4 #[.int .u64 a, .int .u64 b, .string t, .string ahead, .string behind] w fun e w' => e = .returned (.bool true) ∧ Below w.heap.size w w' := by
  go_enter Try.func4, Try.ntmps4
  go_wp2_with fail
  refine (examples_any _).mono ?_
  rintro e w1 ⟨rfl, hw1⟩
  go_wp2_with fail
  refine (HP.out _).mono ?_
  rintro e w2 ⟨rfl, hw2⟩
  go_wp2_with fail
  refine (HX.out _).mono ?_
  rintro e w3 ⟨rfl, hw3⟩
  go_wp2_with fail
  refine (HQ.out _).mono ?_
  rintro e w4 ⟨rfl, hw4⟩
  have hb4 := grows (grows (grows hw1 hw2) hw3) hw4
  clear hw1 hw2 hw3 hw4
  go_wp2_with fail
  refine (G1.out _).mono ?_
  rintro e w5 ⟨rfl, hw5⟩
  go_wp2_with fail
  refine (T1.out _).mono ?_
  rintro e w6 ⟨rfl, hw6⟩
  go_wp2_with fail
  refine (G2.out _).mono ?_
  rintro e w7 ⟨rfl, hw7⟩
  go_wp2_with fail
  refine (T2.out _).mono ?_
  rintro e w8 ⟨rfl, hw8⟩
  have hb8 := grows (grows (grows (grows hb4 hw5) hw6) hw7) hw8
  clear hb4 hw5 hw6 hw7 hw8
  have hm : ((m3 : Int) == (ahead.size : Int) + (p.size : Int) + (x.size : Int) + (q.size : Int)) = true := by rw [beq_iff_eq]; omega
  go_wp2
  go_ret
  exact ⟨rfl, hb8⟩

/-- What stands behind what is ahead. -/
theorem drop_ahead {l a r : List UInt8} {k : Nat} (h : l = a ++ r) (hk : k = a.length) : l.drop k = r := by rw [h, hk, List.drop_left]

theorem walk (a : Int) (ha : 0 ≤ a) (ha' : a ≤ 18446744073709551615) (b : Int) (hb : 0 ≤ b) (hb' : b ≤ 18446744073709551615) (t : ByteArray) (ht : t.size ≤ 140737488351232) (ahead : ByteArray) (hh : ahead.size ≤ 140737488351232) (behind : ByteArray) (hd : behind.size ≤ 140737488351232) (w : World) :
    Calls Try.prog 4 #[.int .u64 a, .int .u64 b, .string t, .string ahead, .string behind] w fun e w' => e = .returned (.bool true) ∧ Below w.heap.size w w' := by
  obtain ⟨x, rfl⟩ := Int.eq_ofNat_of_zero_le ha
  obtain ⟨y, rfl⟩ := Int.eq_ofNat_of_zero_le hb
  have hx : x < 18446744073709551616 := by omega
  have hy : y < 18446744073709551616 := by omega
  have hn : t.size < 18446744073709551616 := by omega
  have lx := putL_ten hx
  have ly := putL_ten hy
  have ln := putL_ten hn
  have sx := str_size (putL x)
  have sy := str_size (putL y)
  have sn := str_size (putL t.size)
  have st : (str (putL t.size) ++ t).size = (putL t.size).length + t.size := by rw [ByteArray.size_append, sn]
  obtain ⟨S, hS⟩ : ∃ S, S = ahead ++ str (putL x) ++ (str (putL t.size) ++ t) ++ str (putL y) ++ behind := ⟨_, rfl⟩
  have hl : S.data.toList = ahead.data.toList ++ (putL x ++ (putL t.size ++ (t.data.toList ++ (putL y ++ behind.data.toList)))) := by
    rw [hS]
    simp only [ByteArray.data_append, Array.toList_append, str_toList, List.append_assoc]
  have hsz : S.size = ahead.size + (putL x).length + ((putL t.size).length + t.size) + (putL y).length + behind.size := by
    rw [hS]
    simp only [ByteArray.size_append, sx, sy, sn]
  have d1 : S.data.toList.drop ahead.size = putL x ++ (putL t.size ++ (t.data.toList ++ (putL y ++ behind.data.toList))) := drop_ahead hl (size_list ahead).symm
  have d2 : S.data.toList.drop (ahead.size + (putL x).length) = putL t.size ++ (t.data.toList ++ (putL y ++ behind.data.toList)) := by
    rw [← List.drop_drop, d1, List.drop_left]
  have d3 : S.data.toList.drop (ahead.size + (putL x).length + (putL t.size).length) = t.data.toList ++ (putL y ++ behind.data.toList) := by
    rw [← List.drop_drop, d2, List.drop_left]
  have d4 : S.data.toList.drop (ahead.size + (putL x).length + (putL t.size).length + t.size) = putL y ++ behind.data.toList := by
    rw [← List.drop_drop, d3]
    exact drop_ahead rfl (size_list t).symm
  have g1 := getV_of (l := S.data.toList) (p := ahead.size) (u := x) ⟨hx, _, d1⟩
  have g2 := getV_of (l := S.data.toList) (p := ahead.size + (putL x).length) (u := t.size) ⟨hn, _, d2⟩
  have g3 := getV_of (l := S.data.toList) (p := ahead.size + (putL x).length + (putL t.size).length + t.size) (u := y) ⟨hy, _, d4⟩
  have t1 : textV S.data.toList ((ahead.size + (putL x).length : Nat) : Int) (t.size : Int) = some (ahead.size + (putL x).length + (putL t.size).length, ahead.size + (putL x).length + (putL t.size).length + t.size) := by
    unfold textV
    rw [g2]
    simp only
    rw [if_neg]
    rw [size_list]
    omega
  have t2 : textV S.data.toList ((ahead.size + (putL x).length : Nat) : Int) ((t.size : Int) - 1) = none := by
    unfold textV
    rw [g2]
    simp only
    rw [if_pos]
    omega
  have hS63 : S.size ≤ 9223372036854775807 := by omega
  have te : ((S.extract (ahead.size + (putL x).length + (putL t.size).length) (ahead.size + (putL x).length + (putL t.size).length + t.size)).toList == t.toList) = true := by
    rw [ext_list, d3, List.take_left' (size_list t), Lib.toList_data]
    simp
  have W := walk_any x y t ahead behind (str (putL x)) (str (putL t.size) ++ t) (str (putL y)) _ _ _ _ ht hh hd (by omega) (by omega) (by omega) (put_any x hx) (put_any y hy) (putText_any t (by omega))
    (by rw [← hS]; exact get_yes S hS63 _ _ _ g1) (by rw [← hS]; exact text_yes S hS63 _ _ (by omega) _ _ t1) (by rw [← hS]; exact get_yes S hS63 _ _ _ g3) (by rw [← hS]; exact text_no S hS63 _ _ (by omega) t2) te (by omega) (by omega) w
  exact W

set_option maxRecDepth 100000 in
theorem lifted (os : Os) (started : os.Started) (H : Type) (enc : TypeId × Value → H) :
    ReturnsInHanded {} Try.checked os 4 .any (Rows.wireBackSpec.pre6 enc Try.prog Try.f4 Rows.wireBackRow.domain false) (Rows.wireBackSpec.post enc Try.prog Try.f4 false true false false) := by
  refine returnsInHanded_of_change_sized (C := Try.checked) Ends.own started (by kernel_rfl) Try.func4
    (ChangeSpec.witness6 (enc := enc) (C := Try.checked) false ⟨#[], #[.int .u64 0, .int .u64 0, .string ⟨#[]⟩, .string ⟨#[]⟩, .string ⟨#[]⟩], []⟩ 8 (by kernel_rfl) (by kernel_rfl) (by kernel_rfl) (by kernel_rfl)) ?_
  intro W base args ds gs before hval0 hW _ hsz0 _
  have hval : ∀ (j : Nat) t v, Try.f4.params[j]? = some t → args[j]? = some v → Value.okWide Try.prog W .any base t v := hval0
  have hsz : (DataW.weightsEach Try.prog (Try.f4.params.toList ++ Rows.wireBackSpec.plain.varTypes Try.prog) (ds ++ gs)).all (· ≤ reachBytes) = true := hsz0
  have hW' := hW
  obtain ⟨p, q, hA0, hV, rfl, hfz, hnd⟩ := hW
  have hA : DataW.TrodAll enc Try.prog W 0 (fun _ => true) true Try.f4.params.toList args.toList ds p := hA0
  rw [Try.params4] at hA hval hsz
  obtain ⟨v0, vs0, d0, ds0, p0, q0, hargs, rfl, rfl, h0, r0⟩ := trodAll_cons hA
  obtain ⟨v1, vs1, d1, ds1, p1, q1, rfl, rfl, rfl, h1, r1⟩ := trodAll_cons r0
  obtain ⟨v2, vs2, d2, ds2, p2, q2, rfl, rfl, rfl, h2, r2⟩ := trodAll_cons r1
  obtain ⟨v3, vs3, d3, ds3, p3, q3, rfl, rfl, rfl, h3, r3⟩ := trodAll_cons r2
  obtain ⟨v4, vs4, d4, ds4, p4, q4, rfl, rfl, rfl, h4, r4⟩ := trodAll_cons r3
  obtain ⟨rfl, rfl, rfl⟩ := trodAll_nil r4
  obtain rfl : args = #[v0, v1, v2, v3, v4] := by cases args; simp_all
  obtain ⟨rfl, rfl⟩ := trodVars_none hV
  obtain ⟨a0, rfl, rfl, rfl, w0⟩ := open_int Try.underlying22 (hval 0 22 v0 rfl rfl) h0
  obtain ⟨a1, rfl, rfl, rfl, w1⟩ := open_int Try.underlying22 (hval 1 22 v1 rfl rfl) h1
  obtain ⟨a2, rfl, rfl, rfl, w2⟩ := Go.ChangeMaps.open_string Try.underlying9 (hval 2 9 v2 rfl rfl) h2
  obtain ⟨a3, rfl, rfl, rfl, w3⟩ := Go.ChangeMaps.open_string Try.underlying9 (hval 3 9 v3 rfl rfl) h3
  obtain ⟨a4, rfl, rfl, rfl, w4⟩ := Go.ChangeMaps.open_string Try.underlying9 (hval 4 9 v4 rfl rfl) h4
  have b0 := bounds_u64 w0
  have b1 := bounds_u64 w1
  have b2 : a2.size ≤ 140737488351232 := by have := sized_string hsz (j := 2) rfl rfl; rw [Array.length_toList] at this; exact this
  have b3 : a3.size ≤ 140737488351232 := by have := sized_string hsz (j := 3) rfl rfl; rw [Array.length_toList] at this; exact this
  have b4 : a4.size ≤ 140737488351232 := by have := sized_string hsz (j := 4) rfl rfl; rw [Array.length_toList] at this; exact this
  refine (walk a0 b0.1 b0.2 a1 b1.1 b1.2 a2 b2 a3 b3 a4 b4 W).mono fun e W' ⟨he, hb⟩ => ?_
  subst he
  exact ⟨_, rfl, Ends.law_end Ends.laidOut (by rw [Try.params4]; decide +kernel) rfl (by kernel_rfl) Try.underlying4 hW' rfl hb⟩

/-- The statement. -/
theorem proved : Rows.WireBackSaid :=
  OpenClaim.holds_of_wide 4 Try.f4 rfl rfl rfl rfl rfl rfl rfl ⟨rfl, rfl, rfl, rfl, rfl⟩ rfl rfl rfl rfl rfl (by kernel_rfl) Try.func4 (by kernel_rfl)
    (of_decide_eq_true (by kernel_rfl)) (by unfold Func.isWrapper; first | (rw [if_pos (by decide +kernel)]; kernel_rfl) | (rw [if_neg (by decide +kernel)]; exact ⟨rfl, rfl⟩))
    (fun os started H enc _ => lifted os started H enc)
end Go.Proofs.Ytloigbnfdldfcaa.wireBack
