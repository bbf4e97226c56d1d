/- Proved: demesnelaw04.LabelBack answers true for every two slices of bytes and every two texts, and leaves them as they were. No condition. -/
import Derived.Test.YtpkaejacnblplaaEnd
import Derived.Test.YtpkaejacnblplaaLMade
namespace Go.Proofs.Ytpkaejacnblplaa.labelBack
open Go.RowKit Go.Proofs.Ytpkaejacnblplaa.Args Go.Proofs.Ytpkaejacnblplaa.Label

theorem cat_list (a b c d : ByteArray) : (a ++ b ++ c ++ d).data.toList = a.data.toList ++ (b.data.toList ++ (c.data.toList ++ d.data.toList)) := by simp
theorem cat_one (a b c d : ByteArray) : (a ++ b ++ c ++ d).data.toList.drop a.size = b.data.toList ++ (c.data.toList ++ d.data.toList) := by rw [cat_list, ← Word.size_list a, List.drop_left]
theorem cat_two (a b c d : ByteArray) : (a ++ b ++ c ++ d).data.toList.drop (a.size + b.size) = c.data.toList ++ d.data.toList := by rw [← List.drop_drop, cat_one, ← Word.size_list b, List.drop_left]

set_option maxRecDepth 100000 in
set_option maxHeartbeats 4000000 in
theorem walk (v : Value) (bs : List UInt8) (v' : Value) (ms : List UInt8) (s : ByteArray) (hs : s.size ≤ 140737488351232) (t : ByteArray) (ht : t.size ≤ 140737488351232) (w : World) (hv : Bytes w v bs) (hv' : Bytes w v' ms) :
    Calls Try.prog 4 #[v, v', .string s, .string t] w fun e w' => e = .returned (.bool true) ∧ Below w.heap.size w w' := by
  have HV := Lib.hid hv
  have HV' := Lib.hid hv'
  have hr := made_right bs
  have hr' := made_right ms
  obtain ⟨A, hA⟩ : ∃ A, A = madeL bs := ⟨_, rfl⟩
  obtain ⟨B, hB⟩ : ∃ A, A = madeL ms := ⟨_, rfl⟩
  have HM : Hid (∀ w1, Below w.heap.size w w1 → Calls Try.prog 24 #[v] w1 fun e w' => (∃ u, e = .returned u ∧ Row w' u A) ∧ Below w1.heap.size w1 w') := Lib.hid fun w1 hb => by rw [hA]; exact made_any v bs w1 (HV.out.below hb)
  have HM' : Hid (∀ w1, Below w.heap.size w w1 → Calls Try.prog 24 #[v'] w1 fun e w' => (∃ u, e = .returned u ∧ Row w' u B) ∧ Below w1.heap.size w1 w') := Lib.hid fun w1 hb => by rw [hB]; exact made_any v' ms w1 (HV'.out.below hb)
  rw [← hA] at hr
  rw [← hB] at hr'
  have h8 := (rightL_parts hr).1
  have h8' := (rightL_parts hr').1
  have q1 := putP_le (a := A)
  have q2 := putP_le (a := B)
  have t1 := textP_le (a := A)
  have HRt : Hid (∀ u w1 w2, Row w1 u A → Below w1.heap.size w1 w2 → Calls Try.prog 18 #[u] w2 fun e w' => e = .returned (.bool true) ∧ Below w2.heap.size w2 w') := Lib.hid fun u w1 w2 h hb => by rw [← hr]; exact right_rows u A w2 (h.below hb) (by omega)
  have HPu : Hid (∀ u w1 w2, Row w1 u A → Below w1.heap.size w1 w2 → Calls Try.prog 20 #[u] w2 fun e w' => e = .returned (.string (putP A)) ∧ Below w2.heap.size w2 w') := Lib.hid fun u w1 w2 h hb => put_rows u A w2 (h.below hb) (by omega)
  have HPu' : Hid (∀ u w1 w2, Row w1 u B → Below w1.heap.size w1 w2 → Calls Try.prog 20 #[u] w2 fun e w' => e = .returned (.string (putP B)) ∧ Below w2.heap.size w2 w') := Lib.hid fun u w1 w2 h hb => put_rows u B w2 (h.below hb) (by omega)
  have HTe : Hid (∀ u w1 w2, Row w1 u A → Below w1.heap.size w1 w2 → Calls Try.prog 22 #[u] w2 fun e w' => e = .returned (.string (textP A)) ∧ Below w2.heap.size w2 w') := Lib.hid fun u w1 w2 h hb => text_rows u A w2 (h.below hb) (by omega)
  have HTe' : Hid (∀ u w1 w2, Row w1 u B → Below w1.heap.size w1 w2 → Calls Try.prog 22 #[u] w2 fun e w' => e = .returned (.string (textP B)) ∧ Below w2.heap.size w2 w') := Lib.hid fun u w1 w2 h hb => text_rows u B w2 (h.below hb) (by omega)
  have HPa : Hid (∀ w, Calls Try.prog 15 #[.string (textP A)] w (TellsL (some A) w)) := Lib.hid fun w => by rw [← parse_text hr]; exact parse_any _ (by omega) w
  have HSa : Hid (∀ u x w1 w2, Row w1 u A → Row w1 x A → Below w1.heap.size w1 w2 → Calls Try.prog 25 #[u, x] w2 fun e w' => e = .returned (.bool true) ∧ Below w2.heap.size w2 w') := Lib.hid fun u x w1 w2 h h' hb => by
    have := same_rows u x A A w2 (h.below hb) (h'.below hb) (by omega)
    rw [decide_eq_true rfl] at this
    exact this
  have HSb : Hid (∀ u x w1 w2, Row w1 u B → Row w1 x B → Below w1.heap.size w1 w2 → Calls Try.prog 25 #[u, x] w2 fun e w' => e = .returned (.bool true) ∧ Below w2.heap.size w2 w') := Lib.hid fun u x w1 w2 h h' hb => by
    have := same_rows u x B B w2 (h.below hb) (h'.below hb) (by omega)
    rw [decide_eq_true rfl] at this
    exact this
  have HG1 : Hid (∀ w, Calls Try.prog 13 #[.string (s ++ putP A ++ putP B ++ t), .int .i64 (s.size : Int)] w (TellsG (some (A, (((s.size + (putP A).size : Nat)) : Int))) w)) := Lib.hid fun w => by
    have := get_put (s := s ++ putP A ++ putP B ++ t) (p := s.size) (r := (putP B).data.toList ++ t.data.toList) hr (cat_one _ _ _ _)
    rw [← this]
    exact get_rows _ (by rw [ByteArray.size_append, ByteArray.size_append, ByteArray.size_append]; omega) _ w
  have HG2 : Hid (∀ w, Calls Try.prog 13 #[.string (s ++ putP A ++ putP B ++ t), .int .i64 ((s.size + (putP A).size : Nat) : Int)] w (TellsG (some (B, (((s.size + (putP A).size + (putP B).size : Nat)) : Int))) w)) := Lib.hid fun w => by
    have := get_put (s := s ++ putP A ++ putP B ++ t) (p := s.size + (putP A).size) (r := t.data.toList) hr' (cat_two _ _ _ _)
    rw [← this]
    exact get_rows _ (by rw [ByteArray.size_append, ByteArray.size_append, ByteArray.size_append]; omega) _ w
  obtain ⟨q, hq⟩ : ∃ q, decide (A = B) = q := ⟨_, rfl⟩
  have hpq : ((putP A).toList == (putP B).toList) = q := by
    rw [← hq, Bool.eq_iff_iff, beq_iff_eq, decide_eq_true_eq]
    exact ⟨fun h => putP_inj hr hr' (toList_inj h), fun h => by rw [h]⟩
  have htq : ((textP A).toList == (textP B).toList) = q := by
    rw [← hq, Bool.eq_iff_iff, beq_iff_eq, decide_eq_true_eq]
    exact ⟨fun h => textP_inj hr hr' (toList_inj h), fun h => by rw [h]⟩
  have HSq : Hid (∀ u x w1 w2, Row w1 u A → Row w1 x B → Below w1.heap.size w1 w2 → Calls Try.prog 25 #[u, x] w2 fun e w' => e = .returned (.bool q) ∧ Below w2.heap.size w2 w') := Lib.hid fun u x w1 w2 h h' hb => by
    rw [← hq]
    exact same_rows u x A B w2 (h.below hb) (h'.below hb) (by omega)
  obtain ⟨P1, hP1⟩ : ∃ q, q = putP A := ⟨_, rfl⟩
  obtain ⟨P2, hP2⟩ : ∃ q, q = putP B := ⟨_, rfl⟩
  obtain ⟨T1, hT1⟩ : ∃ q, q = textP A := ⟨_, rfl⟩
  obtain ⟨T2, hT2⟩ : ∃ q, q = textP B := ⟨_, rfl⟩
  rw [← hP1] at HPu HG1 HG2 hpq q1
  rw [← hP2] at HPu' HG1 HG2 hpq q2
  rw [← hT1] at HTe HPa htq t1
  rw [← hT2] at HTe' htq
  have z1 : s.size + P1.size ≤ 9223372036854775807 := by omega
  have z2 : s.size + P1.size + P2.size ≤ 9223372036854775807 := by omega
  have z3 : s.size + P1.size + P2.size + t.size ≤ 9223372036854775807 := by omega
  have a1 : ∀ w, Sem.run Try.prog (Op.stringOp .add s P1) w = .ok (.string (s ++ P1)) w := fun w => run_string_add_sum w _ _ z1
  have a2 : ∀ w, Sem.run Try.prog (Op.stringOp .add (s ++ P1) P2) w = .ok (.string (s ++ P1 ++ P2)) w := fun w => run_string_add_sum w _ _ (by rw [ByteArray.size_append]; exact z2)
  have a3 : ∀ w, Sem.run Try.prog (Op.stringOp .add (s ++ P1 ++ P2) t) w = .ok (.string (s ++ P1 ++ P2 ++ t)) w := fun w => run_string_add_sum w _ _ (by rw [ByteArray.size_append, ByteArray.size_append]; exact z3)
  clear hP1 hP2 hT1 hT2 hA hB hr hr' hv hv' hq
  go_enter Try.func4, Try.ntmps4
  go_wp2_with fail
  refine (examples_any _).mono ?_
  rintro e w1 ⟨rfl, hw1⟩
  go_wp2_with fail
  refine (HM.out _ hw1).mono ?_
  rintro e w2 ⟨⟨u, rfl, hu⟩, hw2⟩
  have hb := grows hw1 hw2
  go_wp2_with fail
  refine (HM'.out _ hb).mono ?_
  rintro e w3 ⟨⟨y, rfl, hy⟩, hw3⟩
  have hb' := grows hb hw3
  have HU := Lib.hid (hu.below hw3)
  have HY := Lib.hid hy
  clear hb hw1 hw2 hw3 hu hy
  go_wp2_with fail
  refine (HPu.out _ _ _ HU.out (Below.refl _ _)).mono ?_
  rintro e w4 ⟨rfl, b4⟩
  go_wp2_with fail
  refine (HPu'.out _ _ _ HY.out b4).mono ?_
  rintro e w5 ⟨rfl, hw5⟩
  have b5 := grows b4 hw5
  clear hw5 b4
  go_wp2_with fail
  refine (HG1.out _).mono ?_
  rintro e w6 ⟨⟨x1, rfl, hx1⟩, hw6⟩
  have b6 := grows b5 hw6
  clear hw6 b5
  go_wp2_with fail
  refine (HG2.out _).mono ?_
  rintro e w7 ⟨⟨x2, rfl, hx2⟩, hw7⟩
  have b7 := grows b6 hw7
  have HX1 := Lib.hid (hx1.below hw7)
  clear hw7 b6 hx1
  go_wp2_with fail
  refine (HTe.out _ _ _ HU.out b7).mono ?_
  rintro e w8 ⟨rfl, hw8⟩
  have b8 := grows b7 hw8
  have HX1' := Lib.hid (HX1.out.below hw8)
  have HX2 := Lib.hid (hx2.below hw8)
  clear hw8 b7 HX1 hx2
  go_wp2_with fail
  refine (HPa.out _).mono ?_
  rintro e w9 ⟨⟨x3, rfl, hx3⟩, hw9⟩
  have b9 := grows b8 hw9
  have HX1 := Lib.hid (HX1'.out.below hw9)
  have HX2' := Lib.hid (HX2.out.below hw9)
  have HX3 := Lib.hid hx3
  clear hw9 b8 HX1' HX2 hx3
  go_wp2_with fail
  refine (HSq.out _ _ _ _ HU.out HY.out b9).mono ?_
  rintro e w10 ⟨rfl, hw10⟩
  have b10 := grows b9 hw10
  have HX1' := Lib.hid (HX1.out.below hw10)
  have HX2 := Lib.hid (HX2'.out.below hw10)
  have HX3' := Lib.hid (HX3.out.below hw10)
  have HU' := Lib.hid (HU.out.below b10)
  have HY' := Lib.hid (HY.out.below b10)
  have hb := grows hb' b10
  clear hw10 b9 HX1 HX2' HX3 HU HY hb' b10
  have hend : ((s.size : Int) + (P1.size : Int) + (P2.size : Int) == ((s ++ P1 ++ P2 ++ t).size : Int) - (t.size : Int)) = true := by
    rw [beq_iff_eq, ByteArray.size_append, ByteArray.size_append, ByteArray.size_append]; omega
  have hend2 : ((s.size : Int) + (P1.size : Int) + (P2.size : Int) == ((s.size + P1.size + P2.size + t.size : Nat) : Int) - (t.size : Int)) = true := by
    rw [beq_iff_eq]; omega
  have hend3 : ((s.size : Int) + (P1.size : Int) + (P2.size : Int) == ((s.size : Int) + (P1.size : Int) + (P2.size : Int) + (t.size : Int)) - (t.size : Int)) = true := by
    rw [beq_iff_eq]; omega
  have hqq : (q == q) = true := by simp
  go_wp2_with fail
  refine (HRt.out _ _ _ HU'.out (Below.refl _ _)).mono ?_
  rintro e w11 ⟨rfl, b11⟩
  go_wp2_with fail
  refine (HSa.out _ _ _ _ HX1'.out HU'.out b11).mono ?_
  rintro e w12 ⟨rfl, hw12⟩
  have b12 := grows b11 hw12
  clear b11 hw12
  go_wp2_with fail
  refine (HSb.out _ _ _ _ HX2.out HY'.out b12).mono ?_
  rintro e w13 ⟨rfl, hw13⟩
  have b13 := grows b12 hw13
  clear b12 hw13
  go_wp2_with fail
  refine (HSa.out _ _ _ _ HX3'.out HU'.out b13).mono ?_
  rintro e w14 ⟨rfl, hw14⟩
  have b14 := grows b13 hw14
  clear b13 hw14
  go_wp2_with fail
  refine (HPu.out _ _ _ HU'.out b14).mono ?_
  rintro e w15 ⟨rfl, hw15⟩
  have b15 := grows b14 hw15
  clear b14 hw15
  go_wp2_with fail
  refine (HPu'.out _ _ _ HY'.out b15).mono ?_
  rintro e w16 ⟨rfl, hw16⟩
  have b16 := grows b15 hw16
  clear b15 hw16
  go_wp2_with fail
  refine (HTe.out _ _ _ HU'.out b16).mono ?_
  rintro e w17 ⟨rfl, hw17⟩
  have b17 := grows b16 hw17
  clear b16 hw17
  go_wp2_with fail
  refine (HTe'.out _ _ _ HY'.out b17).mono ?_
  rintro e w18 ⟨rfl, hw18⟩
  have b18 := grows b17 hw18
  clear b17 hw18
  go_wp2
  go_ret
  exact ⟨rfl, grows hb b18⟩

open Go.ChangeShapes Go.WideShapes Go.ChangeAt
set_option maxRecDepth 100000 in
theorem lifted (os : Os) (started : os.Started) (H : Type) (enc : TypeId × Value → H) :
    ReturnsInHanded {} Try.checked os 4 .any (Rows.labelBackSpec.pre6 enc Try.prog Try.f4 Rows.labelBackRow.domain false) (Rows.labelBackSpec.post enc Try.prog Try.f4 false true false false) := by
  refine returnsInHanded_of_change_sized (C := Try.checked) Ends.own started (by kernel_rfl) Try.func4
    (ChangeSpec.witness6 (enc := enc) (C := Try.checked) false ⟨#[], #[.slice none 0 0, .slice none 0 0, .string ⟨#[]⟩, .string ⟨#[]⟩], []⟩ 8 (by kernel_rfl) (by kernel_rfl) (by kernel_rfl) (by kernel_rfl)) ?_
  intro W base args ds gs before hval0 hW _ hsz0 _
  have hval : ∀ (j : Nat) t v, Try.f4.params[j]? = some t → args[j]? = some v → Value.okWide Try.prog W .any base t v := hval0
  have hsz : (DataW.weightsEach Try.prog (Try.f4.params.toList ++ Rows.labelBackSpec.plain.varTypes Try.prog) (ds ++ gs)).all (· ≤ reachBytes) = true := hsz0
  have hW' := hW
  obtain ⟨p, q, hA0, hV, rfl, hfz, hnd⟩ := hW
  have hA : DataW.TrodAll enc Try.prog W 0 (fun _ => true) true Try.f4.params.toList args.toList ds p := hA0
  rw [Try.params4] at hA hval hsz
  obtain ⟨v0, vs0, d0, ds0, p0, q0, hargs, rfl, rfl, h0, r0⟩ := trodAll_cons hA
  obtain ⟨v1, vs1, d1, ds1, p1, q1, rfl, rfl, rfl, h1, r1⟩ := trodAll_cons r0
  obtain ⟨v2, vs2, d2, ds2, p2, q2, rfl, rfl, rfl, h2, r2⟩ := trodAll_cons r1
  obtain ⟨v3, vs3, d3, ds3, p3, q3, rfl, rfl, rfl, h3, r3⟩ := trodAll_cons r2
  obtain ⟨rfl, rfl, rfl⟩ := trodAll_nil r3
  obtain rfl : args = #[v0, v1, v2, v3] := by cases args; simp_all
  obtain ⟨rfl, rfl⟩ := trodVars_none hV
  obtain ⟨a0, w0⟩ := Args.open_bytes Try.underlying43 Try.underlying5 (by kernel_rfl) (hval 0 43 v0 rfl rfl) h0
  obtain ⟨a1, w1⟩ := Args.open_bytes Try.underlying43 Try.underlying5 (by kernel_rfl) (hval 1 43 v1 rfl rfl) h1
  obtain ⟨a2, rfl, rfl, rfl, w2⟩ := Go.ChangeMaps.open_string Try.underlying9 (hval 2 9 v2 rfl rfl) h2
  obtain ⟨a3, rfl, rfl, rfl, w3⟩ := Go.ChangeMaps.open_string Try.underlying9 (hval 3 9 v3 rfl rfl) h3
  have b2 : a2.size ≤ 140737488351232 := by have := sized_string hsz (j := 2) rfl rfl; rw [Array.length_toList] at this; exact this
  have b3 : a3.size ≤ 140737488351232 := by have := sized_string hsz (j := 3) rfl rfl; rw [Array.length_toList] at this; exact this
  refine (walk v0 a0 v1 a1 a2 b2 a3 b3 W w0 w1).mono fun e W' ⟨he, hb⟩ => ?_
  subst he
  exact ⟨_, rfl, Ends.law_end Ends.laidOut (by rw [Try.params4]; decide +kernel) rfl (by kernel_rfl) Try.underlying4 hW' rfl hb⟩

/-- The statement. -/
theorem proved : Rows.LabelBackSaid :=
  OpenClaim.holds_of_wide 4 Try.f4 rfl rfl rfl rfl rfl rfl rfl ⟨rfl, rfl, rfl, rfl, rfl⟩ rfl rfl rfl rfl rfl (by kernel_rfl) Try.func4 (by kernel_rfl)
    (of_decide_eq_true (by kernel_rfl)) (by unfold Func.isWrapper; first | (rw [if_pos (by decide +kernel)]; kernel_rfl) | (rw [if_neg (by decide +kernel)]; exact ⟨rfl, rfl⟩))
    (fun os started H enc _ => lifted os started H enc)
end Go.Proofs.Ytpkaejacnblplaa.labelBack
