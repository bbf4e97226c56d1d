/- Proved: demesnelaw04.LabelOnce answers true for every text of bytes, every place and every text, and leaves them as they were. No condition. -/
import Derived.Test.YtpkaejacnblplaaEnd
import Derived.Test.YtpkaejacnblplaaLShow
import Derived.Test.YtpkaejacnblplaaQuiet
namespace Go.Proofs.Ytpkaejacnblplaa.labelOnce
open Go.ChangeShapes Go.WideShapes Go.ChangeAt Go.RowKit
open Go.Proofs.Ytpkaejacnblplaa.Label

set_option maxRecDepth 100000 in
set_option maxHeartbeats 4000000 in
theorem walk_nn (s t : ByteArray) (p : Int)
    (HG : Hid (∀ w, Calls Try.prog 13 #[.string s, .int .i64 p] w (TellsG none w)))
    (HP : Hid (∀ w, Calls Try.prog 15 #[.string t] w (TellsL none w))) (w : World) :
    Calls Try.prog 6 #[.string s, .int .i64 p, .string t] w fun e w' => e = .returned (.bool true) ∧ Below w.heap.size w w' := by
  go_enter Try.func6, Try.ntmps6
  go_wp2_with fail
  refine (examples_any _).mono ?_
  rintro e w1 ⟨rfl, hw1⟩
  go_wp2_with fail
  refine (HG.out _).mono ?_
  rintro e w2 ⟨rfl, hw2⟩
  go_wp2_with fail
  refine (HP.out _).mono ?_
  rintro e w3 ⟨rfl, hw3⟩
  have hb := grows (grows hw1 hw2) hw3
  clear hw1 hw2 hw3
  go_wp2_with fail
  go_quiet (fail)
  go_wp2
  go_ret
  exact ⟨rfl, below_drewN hb nq⟩
set_option maxRecDepth 100000 in
set_option maxHeartbeats 4000000 in
theorem walk_sn (s t : ByteArray) (_hs : s.size ≤ 140737488351232) (a b : Nat) (hab : (a : Int) ≤ (b : Int)) (hbs : (b : Int) ≤ (s.size : Int)) (ls : List Pr) (hl : ls.length ≤ 8) (HR : Hid (rightL ls = true)) (HU : Hid ((putP ls).toList = (s.extract a b).toList))
    (HG : Hid (∀ w, Calls Try.prog 13 #[.string s, .int .i64 (a : Int)] w (TellsG (some (ls, (b : Int))) w)))
    (HP : Hid (∀ w, Calls Try.prog 15 #[.string t] w (TellsL (none) w))) (w : World) :
    Calls Try.prog 6 #[.string s, .int .i64 (a : Int), .string t] w fun e w' => e = .returned (.bool true) ∧ Below w.heap.size w w' := by
  have e1 := HU.out
  obtain ⟨P1, hP1⟩ : ∃ x, x = putP ls := ⟨_, rfl⟩
  rw [← hP1] at e1
  have e1' : (P1.toList == (s.extract a b).toList) = true := by rw [e1]; simp
  have CR : Hid (∀ v w w', Row w v ls → Below w.heap.size w w' → Calls Try.prog 18 #[v] w' fun e w'' => e = .returned (.bool true) ∧ Below w'.heap.size w' w'') := Lib.hid fun v w w' h hb => by rw [← HR.out]; exact right_rows v ls w' (h.below hb) (by omega)
  have CP : Hid (∀ v w w', Row w v ls → Below w.heap.size w w' → Calls Try.prog 20 #[v] w' fun e w'' => e = .returned (.string P1) ∧ Below w'.heap.size w' w'') := Lib.hid fun v w w' h hb => by rw [hP1]; exact put_rows v ls w' (h.below hb) (by omega)
  clear hP1 e1 HU HR
  have d1 : decide ((a : Int) < 0) = false := decide_eq_false (by omega)
  have d2 : decide (s.size < b) = false := decide_eq_false (by omega)
  have hp0 : (0 : Int) ≤ (a : Int) := by omega
  go_enter Try.func6, Try.ntmps6
  go_wp2_with fail
  refine (examples_any _).mono ?_
  rintro e w1 ⟨rfl, hw1⟩
  go_wp2_with fail
  refine (HG.out _).mono ?_
  rintro e w2 ⟨⟨v, rfl, hv⟩, hw2⟩
  go_wp2_with fail
  refine (HP.out _).mono ?_
  rintro e w3 ⟨rfl, hw3⟩
  have hb := grows (grows hw1 hw2) hw3
  have HV := Lib.hid (hv.below hw3)
  clear hv
  clear hw1 hw2 hw3
  go_wp2_with fail
  refine Quiet.region (by kernel_rfl) (by kernel_rfl) ?_
  repeat (go_big_quiet_step (first | (go_at_call 18; (with_reducible exact Quiet.calls (CR.out _ _ _ HV.out (Quiet.Behind.below _)))) | (go_at_call 20; (with_reducible exact Quiet.calls (CP.out _ _ _ HV.out (Quiet.Behind.below _))))))
  refine wpQuiet_nil ?_
  rintro _ ⟨pq, rfl⟩
  have hq := pq.below
  generalize pq.world = wq at hq ⊢
  go_wp2
  go_ret
  exact ⟨rfl, grows hb hq⟩
set_option maxRecDepth 100000 in
set_option maxHeartbeats 4000000 in
theorem walk_ns (s t : ByteArray) (p : Int) (ms : List Pr) (hm : ms.length ≤ 8) (HR' : Hid (rightL ms = true)) (HT : Hid ((textP ms).toList = t.toList))
    (HG : Hid (∀ w, Calls Try.prog 13 #[.string s, .int .i64 p] w (TellsG (none) w)))
    (HP : Hid (∀ w, Calls Try.prog 15 #[.string t] w (TellsL (some ms) w))) (w : World) :
    Calls Try.prog 6 #[.string s, .int .i64 p, .string t] w fun e w' => e = .returned (.bool true) ∧ Below w.heap.size w w' := by
  have f1 := HT.out
  obtain ⟨T1, hT1⟩ : ∃ x, x = textP ms := ⟨_, rfl⟩
  rw [← hT1] at f1
  have f1' : (T1.toList == t.toList) = true := by rw [f1]; simp
  have CR' : Hid (∀ v w w', Row w v ms → Below w.heap.size w w' → Calls Try.prog 18 #[v] w' fun e w'' => e = .returned (.bool true) ∧ Below w'.heap.size w' w'') := Lib.hid fun v w w' h hb => by rw [← HR'.out]; exact right_rows v ms w' (h.below hb) (by omega)
  have CT : Hid (∀ v w w', Row w v ms → Below w.heap.size w w' → Calls Try.prog 22 #[v] w' fun e w'' => e = .returned (.string T1) ∧ Below w'.heap.size w' w'') := Lib.hid fun v w w' h hb => by rw [hT1]; exact text_rows v ms w' (h.below hb) (by omega)
  clear hT1 f1 HT HR'
  go_enter Try.func6, Try.ntmps6
  go_wp2_with fail
  refine (examples_any _).mono ?_
  rintro e w1 ⟨rfl, hw1⟩
  go_wp2_with fail
  refine (HG.out _).mono ?_
  rintro e w2 ⟨rfl, hw2⟩
  go_wp2_with fail
  refine (HP.out _).mono ?_
  rintro e w3 ⟨⟨u, rfl, hu⟩, hw3⟩
  have hb := grows (grows hw1 hw2) hw3
  have HU := Lib.hid hu
  clear hu
  clear hw1 hw2 hw3
  go_wp2_with fail
  refine Quiet.region (by kernel_rfl) (by kernel_rfl) ?_
  repeat (go_big_quiet_step (first | (go_at_call 18; (with_reducible exact Quiet.calls (CR'.out _ _ _ HU.out (Quiet.Behind.below _)))) | (go_at_call 22; (with_reducible exact Quiet.calls (CT.out _ _ _ HU.out (Quiet.Behind.below _))))))
  refine wpQuiet_nil ?_
  rintro _ ⟨pq, rfl⟩
  have hq := pq.below
  generalize pq.world = wq at hq ⊢
  go_wp2
  go_ret
  exact ⟨rfl, grows hb hq⟩
set_option maxRecDepth 100000 in
set_option maxHeartbeats 4000000 in
theorem walk_ss (s t : ByteArray) (_hs : s.size ≤ 140737488351232) (a b : Nat) (hab : (a : Int) ≤ (b : Int)) (hbs : (b : Int) ≤ (s.size : Int)) (ls : List Pr) (hl : ls.length ≤ 8) (HR : Hid (rightL ls = true)) (HU : Hid ((putP ls).toList = (s.extract a b).toList)) (ms : List Pr) (hm : ms.length ≤ 8) (HR' : Hid (rightL ms = true)) (HT : Hid ((textP ms).toList = t.toList))
    (HG : Hid (∀ w, Calls Try.prog 13 #[.string s, .int .i64 (a : Int)] w (TellsG (some (ls, (b : Int))) w)))
    (HP : Hid (∀ w, Calls Try.prog 15 #[.string t] w (TellsL (some ms) w))) (w : World) :
    Calls Try.prog 6 #[.string s, .int .i64 (a : Int), .string t] w fun e w' => e = .returned (.bool true) ∧ Below w.heap.size w w' := by
  have e1 := HU.out
  obtain ⟨P1, hP1⟩ : ∃ x, x = putP ls := ⟨_, rfl⟩
  rw [← hP1] at e1
  have e1' : (P1.toList == (s.extract a b).toList) = true := by rw [e1]; simp
  have CR : Hid (∀ v w w', Row w v ls → Below w.heap.size w w' → Calls Try.prog 18 #[v] w' fun e w'' => e = .returned (.bool true) ∧ Below w'.heap.size w' w'') := Lib.hid fun v w w' h hb => by rw [← HR.out]; exact right_rows v ls w' (h.below hb) (by omega)
  have CP : Hid (∀ v w w', Row w v ls → Below w.heap.size w w' → Calls Try.prog 20 #[v] w' fun e w'' => e = .returned (.string P1) ∧ Below w'.heap.size w' w'') := Lib.hid fun v w w' h hb => by rw [hP1]; exact put_rows v ls w' (h.below hb) (by omega)
  clear hP1 e1 HU HR
  have d1 : decide ((a : Int) < 0) = false := decide_eq_false (by omega)
  have d2 : decide (s.size < b) = false := decide_eq_false (by omega)
  have hp0 : (0 : Int) ≤ (a : Int) := by omega
  have f1 := HT.out
  obtain ⟨T1, hT1⟩ : ∃ x, x = textP ms := ⟨_, rfl⟩
  rw [← hT1] at f1
  have f1' : (T1.toList == t.toList) = true := by rw [f1]; simp
  have CR' : Hid (∀ v w w', Row w v ms → Below w.heap.size w w' → Calls Try.prog 18 #[v] w' fun e w'' => e = .returned (.bool true) ∧ Below w'.heap.size w' w'') := Lib.hid fun v w w' h hb => by rw [← HR'.out]; exact right_rows v ms w' (h.below hb) (by omega)
  have CT : Hid (∀ v w w', Row w v ms → Below w.heap.size w w' → Calls Try.prog 22 #[v] w' fun e w'' => e = .returned (.string T1) ∧ Below w'.heap.size w' w'') := Lib.hid fun v w w' h hb => by rw [hT1]; exact text_rows v ms w' (h.below hb) (by omega)
  clear hT1 f1 HT HR'
  go_enter Try.func6, Try.ntmps6
  go_wp2_with fail
  refine (examples_any _).mono ?_
  rintro e w1 ⟨rfl, hw1⟩
  go_wp2_with fail
  refine (HG.out _).mono ?_
  rintro e w2 ⟨⟨v, rfl, hv⟩, hw2⟩
  go_wp2_with fail
  refine (HP.out _).mono ?_
  rintro e w3 ⟨⟨u, rfl, hu⟩, hw3⟩
  have hb := grows (grows hw1 hw2) hw3
  have HV := Lib.hid (hv.below hw3)
  clear hv
  have HU := Lib.hid hu
  clear hu
  clear hw1 hw2 hw3
  go_wp2_with fail
  refine Quiet.region (by kernel_rfl) (by kernel_rfl) ?_
  repeat (go_big_quiet_step (first | (go_at_call 18; (with_reducible exact Quiet.calls (CR.out _ _ _ HV.out (Quiet.Behind.below _)))) | (go_at_call 20; (with_reducible exact Quiet.calls (CP.out _ _ _ HV.out (Quiet.Behind.below _)))) | (go_at_call 18; (with_reducible exact Quiet.calls (CR'.out _ _ _ HU.out (Quiet.Behind.below _)))) | (go_at_call 22; (with_reducible exact Quiet.calls (CT.out _ _ _ HU.out (Quiet.Behind.below _))))))
  refine wpQuiet_nil ?_
  rintro _ ⟨pq, rfl⟩
  have hq := pq.below
  generalize pq.world = wq at hq ⊢
  go_wp2
  go_ret
  exact ⟨rfl, grows hb hq⟩

theorem walk (s : ByteArray) (hs : s.size ≤ 140737488351232) (p : Int) (_ : -9223372036854775808 ≤ p) (_ : p ≤ 9223372036854775807) (t : ByteArray) (ht : t.size ≤ 140737488351232) (w : World) :
    Calls Try.prog 6 #[.string s, .int .i64 p, .string t] w fun e w' => e = .returned (.bool true) ∧ Below w.heap.size w w' := by
  have HG := Lib.hid (get_rows s (by omega) p)
  have HP := Lib.hid (parse_any t (by omega))
  cases hg : getL s p with
  | none =>
    rw [hg] at HG
    cases hq : parseL t with
    | none => rw [hq] at HP; exact walk_nn s t p HG HP w
    | some ms =>
      rw [hq] at HP
      obtain ⟨h1, h2⟩ := parse_back hq
      exact walk_ns s t p ms (rightL_parts h1).1 (Lib.hid h1) (Lib.hid (by rw [h2])) HG HP w
  | some x =>
    rw [hg] at HG
    obtain ⟨ls, n⟩ := x
    obtain ⟨g1, a, b, rfl, rfl, hab, hbs, he⟩ := get_back hg
    cases hq : parseL t with
    | none => rw [hq] at HP; exact walk_sn s t hs a b (by omega) (by omega) ls (rightL_parts g1).1 (Lib.hid g1) (Lib.hid (by rw [he])) HG HP w
    | some ms =>
      rw [hq] at HP
      obtain ⟨h1, h2⟩ := parse_back hq
      exact walk_ss s t hs a b (by omega) (by omega) ls (rightL_parts g1).1 (Lib.hid g1) (Lib.hid (by rw [he])) ms (rightL_parts h1).1 (Lib.hid h1) (Lib.hid (by rw [h2])) HG HP w

set_option maxRecDepth 100000 in
theorem lifted (os : Os) (started : os.Started) (H : Type) (enc : TypeId × Value → H) :
    ReturnsInHanded {} Try.checked os 6 .any (Rows.labelOnceSpec.pre6 enc Try.prog Try.f6 Rows.labelOnceRow.domain false) (Rows.labelOnceSpec.post enc Try.prog Try.f6 false true false false) := by
  refine returnsInHanded_of_change_sized (C := Try.checked) Ends.own started (by kernel_rfl) Try.func6
    (ChangeSpec.witness6 (enc := enc) (C := Try.checked) false ⟨#[], #[.string ⟨#[]⟩, .int .i64 0, .string ⟨#[]⟩], []⟩ 8 (by kernel_rfl) (by kernel_rfl) (by kernel_rfl) (by kernel_rfl)) ?_
  intro W base args ds gs before hval0 hW _ hsz0 _
  have hval : ∀ (j : Nat) t v, Try.f6.params[j]? = some t → args[j]? = some v → Value.okWide Try.prog W .any base t v := hval0
  have hsz : (DataW.weightsEach Try.prog (Try.f6.params.toList ++ Rows.labelOnceSpec.plain.varTypes Try.prog) (ds ++ gs)).all (· ≤ reachBytes) = true := hsz0
  have hW' := hW
  obtain ⟨p, q, hA0, hV, rfl, hfz, hnd⟩ := hW
  have hA : DataW.TrodAll enc Try.prog W 0 (fun _ => true) true Try.f6.params.toList args.toList ds p := hA0
  rw [Try.params6] at hA hval hsz
  obtain ⟨v0, vs0, d0, ds0, p0, q0, hargs, rfl, rfl, h0, r0⟩ := trodAll_cons hA
  obtain ⟨v1, vs1, d1, ds1, p1, q1, rfl, rfl, rfl, h1, r1⟩ := trodAll_cons r0
  obtain ⟨v2, vs2, d2, ds2, p2, q2, rfl, rfl, rfl, h2, r2⟩ := trodAll_cons r1
  obtain ⟨rfl, rfl, rfl⟩ := trodAll_nil r2
  obtain rfl : args = #[v0, v1, v2] := by cases args; simp_all
  obtain ⟨rfl, rfl⟩ := trodVars_none hV
  obtain ⟨a0, rfl, rfl, rfl, w0⟩ := Go.ChangeMaps.open_string Try.underlying9 (hval 0 9 v0 rfl rfl) h0
  obtain ⟨a1, rfl, rfl, rfl, w1⟩ := open_int Try.underlying3 (hval 1 3 v1 rfl rfl) h1
  obtain ⟨a2, rfl, rfl, rfl, w2⟩ := Go.ChangeMaps.open_string Try.underlying9 (hval 2 9 v2 rfl rfl) h2
  have b0 : a0.size ≤ 140737488351232 := by have := sized_string hsz (j := 0) rfl rfl; rw [Array.length_toList] at this; exact this
  have b1 := bounds_i64 w1
  have b2 : a2.size ≤ 140737488351232 := by have := sized_string hsz (j := 2) rfl rfl; rw [Array.length_toList] at this; exact this
  refine (walk a0 b0 a1 b1.1 b1.2 a2 b2 W).mono fun e W' ⟨he, hb⟩ => ?_
  subst he
  exact ⟨_, rfl, Ends.law_end Ends.laidOut (by rw [Try.params6]; decide +kernel) rfl (by kernel_rfl) Try.underlying4 hW' rfl hb⟩

/-- The statement. -/
theorem proved : Rows.LabelOnceSaid :=
  OpenClaim.holds_of_wide 6 Try.f6 rfl rfl rfl rfl rfl rfl rfl ⟨rfl, rfl, rfl, rfl, rfl⟩ rfl rfl rfl rfl rfl (by kernel_rfl) Try.func6 (by kernel_rfl)
    (of_decide_eq_true (by kernel_rfl)) (by unfold Func.isWrapper; first | (rw [if_pos (by decide +kernel)]; kernel_rfl) | (rw [if_neg (by decide +kernel)]; exact ⟨rfl, rfl⟩))
    (fun os started H enc _ => lifted os started H enc)
end Go.Proofs.Ytpkaejacnblplaa.labelOnce
