/-
  demesnelaw05.SelOnce, for every input: what is got, or parsed, is right, and is put, or shown, as it was; what is not right is put as nothing (the law answers true, and its arguments read as before).
  Conditions: none beyond the row's own (the reach; what the row lists, tied by the card).
-/
import Derived.Test.YtcgknkbigbbfdaaDoorSLits
import Derived.Test.YtcgknkbigbbfdaaDoorSErr
import Derived.Test.YtcgknkbigbbfdaaDoorEnd
import Derived.Test.YtcgknkbigbbfdaaDoorTie
import Derived.Test.YtcgknkbigbbfdaaDoorCards
import Derived.LaidMore
import Derived.Lay
import Derived.PlainAid
import Derived.SevenTiedAt
import Derived.Stop.Joined
namespace Go.Proofs.YtcgknkbigbbfdaaDoor.selOnce
open Go.RowKit Go.Proofs.YtcgknkbigbbfdaaDoor.Sel Go.Proofs.YtcgknkbigbbfdaaDoor.Texts Go.Proofs.YtcgknkbigbbfdaaDoor.Boxes Go.Proofs.YtcgknkbigbbfdaaDoor.Label Go.Proofs.YtcgknkbigbbfdaaDoor.Forms Go.Proofs.YtcgknkbigbbfdaaDoor.Word

theorem fair_right {ls : List Tm} (h : rightS ls = true) : Sel.Fair ls := by
  obtain ⟨h4, ht⟩ := rightS_parts h
  refine ⟨by omega, fun t htm => ?_⟩
  obtain ⟨h1, h2, h3, _⟩ := rightT_parts (ht t htm)
  exact ⟨by have := name_size h1; omega, by omega, fun x hx => by have := name_size (h3 x hx); omega⟩
theorem put_none (ls : List Tm) : ((putS ls).toList == ([] : List UInt8)) = !rightS ls := by
  cases h : rightS ls with
  | true =>
    have := putS_pos h
    rw [beq_eq_false_iff_ne.2]
    · rfl
    · intro e
      rw [Lib.toList_data] at e
      have h2 := congrArg List.length e
      rw [size_list, List.length_nil] at h2
      omega
  | false => rw [putS_no h, Lib.toList_data]; rfl
theorem text_none (ls : List Tm) : ((textS ls).toList == [63]) = !rightS ls := by
  cases h : rightS ls with
  | true =>
    have := textS_ne h
    rw [beq_eq_false_iff_ne.2]
    · rfl
    · intro e
      exact this (Sel.toList_inj (by rw [e, Lib.toList_data]))
  | false => unfold textS; rw [if_neg (by rw [h]; simp), Lib.toList_data]; rfl

set_option maxHeartbeats 8000000 in
set_option maxRecDepth 100000 in
theorem walk_nn (s t : ByteArray) (p : Int) 
    (HG : Hid (∀ W, Err W → Calls Tryd.prog 11 #[.string s, .int .i64 p] W (TellsG none W)))
    (HQ : Hid (∀ W, Err W → Calls Tryd.prog 13 #[.string t] W (TellsS none W)))
    (v : Value) (ls : List Tm) (hF : Sel.Fair ls) (w : World) (hE : Err w) (hv : TRow w v ls) :
    Calls Tryd.prog 8 #[.string s, .int .i64 p, .string t, v] w fun e w' => e = .returned (.bool true) ∧ Below w.heap.size w w' := by
  have HX := Lib.hid (examples_any w hE)
  have HE : Hid (∀ W, Below w.heap.size w W → Err W) := Lib.hid fun W h => hE.below h
  have HL := Lib.hid hv
  obtain ⟨r, hr⟩ : ∃ r, r = rightS ls := ⟨_, rfl⟩
  obtain ⟨P0, hP0⟩ : ∃ x, x = putS ls := ⟨_, rfl⟩
  obtain ⟨T0, hT0⟩ : ∃ x, x = textS ls := ⟨_, rfl⟩
  have hP : (P0.toList == ([] : List UInt8)) = !r := by rw [hP0, hr]; exact put_none ls
  have hT : (T0.toList == [63]) = !r := by rw [hT0, hr]; exact text_none ls
  have HRl : Hid (∀ v W, TRow W v ls → Calls Tryd.prog 16 #[v] W fun e w' => e = .returned (.bool r) ∧ Below W.heap.size W w') := Lib.hid fun v W h => by rw [hr]; exact right_sel v ls W h hF
  have HPl : Hid (∀ v W, TRow W v ls → Calls Tryd.prog 22 #[v] W fun e w' => e = .returned (.string P0) ∧ Below W.heap.size W w') := Lib.hid fun v W h => by rw [hP0]; exact put_sel v ls W h hF
  have HTl : Hid (∀ v W, TRow W v ls → Calls Tryd.prog 24 #[v] W fun e w' => e = .returned (.string T0) ∧ Below W.heap.size W w') := Lib.hid fun v W h => by rw [hT0]; exact text_sel v ls W h hF
  clear hr hP0 hT0 hE hv
  go_enter Tryd.func8, Tryd.ntmps8
  go_wp2_with fail
  with_reducible refine HX.out.mono ?_
  rintro e w1 ⟨rfl, hw1⟩
  go_wp2_with fail
  with_reducible refine (HG.out _ (HE.out _ hw1)).mono ?_
  rintro e w2 ⟨rfl, hw2⟩
  have hw12 := grows hw1 hw2
  go_wp2_with fail
  with_reducible refine (HQ.out _ (HE.out _ hw12)).mono ?_
  rintro e w3 ⟨rfl, hw3⟩
  have hb := grows hw12 hw3
  clear hw1 hw2 hw3 hw12
  go_wp2_with fail
  refine Quiet.region (by kernel_rfl) (by kernel_rfl) ?_
  repeat (go_big_quiet_step (fail))
  refine wpQuiet_nil ?_
  rintro _ ⟨pq, rfl⟩
  have hb := grows hb pq.below
  generalize pq.world = w4 at hb ⊢
  have HV0 : Hid (TRow w4 v ls) := Lib.hid (HL.out.below hb)
  go_wp2_with fail
  with_reducible refine (HRl.out _ _ HV0.out).mono ?_
  rintro e w5 ⟨rfl, hb5⟩
  have HV5 := Lib.hid (HV0.out.below hb5)
  have hbx := grows hb hb5
  clear hb5 hb
  cases r with
  | true =>
    simp only [Bool.not_true] at hP hT
    go_wp2_with fail
    with_reducible refine (HPl.out _ _ HV5.out).mono ?_
    rintro e w6 ⟨rfl, hb6⟩
    have HV6 := Lib.hid (HV5.out.below hb6)
    have hby := grows hbx hb6
    clear hb6 hbx
    go_wp2_with fail
    with_reducible refine (HTl.out _ _ HV6.out).mono ?_
    rintro e w7 ⟨rfl, hb7⟩
    go_wp2
    go_ret
    exact ⟨rfl, grows hby hb7⟩
  | false =>
    simp only [Bool.not_false] at hP hT
    go_wp2_with fail
    with_reducible refine (HPl.out _ _ HV5.out).mono ?_
    rintro e w6 ⟨rfl, hb6⟩
    have HV6 := Lib.hid (HV5.out.below hb6)
    have hby := grows hbx hb6
    clear hb6 hbx
    go_wp2_with fail
    with_reducible refine (HTl.out _ _ HV6.out).mono ?_
    rintro e w7 ⟨rfl, hb7⟩
    go_wp2
    go_ret
    exact ⟨rfl, grows hby hb7⟩

set_option maxHeartbeats 8000000 in
set_option maxRecDepth 100000 in
theorem walk_ns (s t : ByteArray) (p : Int) (ms : List Tm) (HRm : Hid (rightS ms = true)) (HTm : Hid ((textS ms).toList = t.toList))
    (HG : Hid (∀ W, Err W → Calls Tryd.prog 11 #[.string s, .int .i64 p] W (TellsG none W)))
    (HQ : Hid (∀ W, Err W → Calls Tryd.prog 13 #[.string t] W (TellsS (some ms) W)))
    (v : Value) (ls : List Tm) (hF : Sel.Fair ls) (w : World) (hE : Err w) (hv : TRow w v ls) :
    Calls Tryd.prog 8 #[.string s, .int .i64 p, .string t, v] w fun e w' => e = .returned (.bool true) ∧ Below w.heap.size w w' := by
  have HX := Lib.hid (examples_any w hE)
  have HE : Hid (∀ W, Below w.heap.size w W → Err W) := Lib.hid fun W h => hE.below h
  have HL := Lib.hid hv
  obtain ⟨r, hr⟩ : ∃ r, r = rightS ls := ⟨_, rfl⟩
  obtain ⟨P0, hP0⟩ : ∃ x, x = putS ls := ⟨_, rfl⟩
  obtain ⟨T0, hT0⟩ : ∃ x, x = textS ls := ⟨_, rfl⟩
  have hP : (P0.toList == ([] : List UInt8)) = !r := by rw [hP0, hr]; exact put_none ls
  have hT : (T0.toList == [63]) = !r := by rw [hT0, hr]; exact text_none ls
  have HRl : Hid (∀ v W, TRow W v ls → Calls Tryd.prog 16 #[v] W fun e w' => e = .returned (.bool r) ∧ Below W.heap.size W w') := Lib.hid fun v W h => by rw [hr]; exact right_sel v ls W h hF
  have HPl : Hid (∀ v W, TRow W v ls → Calls Tryd.prog 22 #[v] W fun e w' => e = .returned (.string P0) ∧ Below W.heap.size W w') := Lib.hid fun v W h => by rw [hP0]; exact put_sel v ls W h hF
  have HTl : Hid (∀ v W, TRow W v ls → Calls Tryd.prog 24 #[v] W fun e w' => e = .returned (.string T0) ∧ Below W.heap.size W w') := Lib.hid fun v W h => by rw [hT0]; exact text_sel v ls W h hF
  clear hr hP0 hT0 hE hv
  have f1 := HTm.out
  obtain ⟨T1, hT1⟩ : ∃ x, x = textS ms := ⟨_, rfl⟩
  rw [← hT1] at f1
  have f1' : (T1.toList == t.toList) = true := by rw [f1]; simp
  have CR' : Hid (∀ v w w', TRow w v ms → Below w.heap.size w w' → Calls Tryd.prog 16 #[v] w' fun e w'' => e = .returned (.bool true) ∧ Below w'.heap.size w' w'') := Lib.hid fun v w w' h hb => by rw [← HRm.out]; exact right_sel v ms w' (h.below hb) (fair_right HRm.out)
  have CT : Hid (∀ v w w', TRow w v ms → Below w.heap.size w w' → Calls Tryd.prog 24 #[v] w' fun e w'' => e = .returned (.string T1) ∧ Below w'.heap.size w' w'') := Lib.hid fun v w w' h hb => by rw [hT1]; exact text_sel v ms w' (h.below hb) (fair_right HRm.out)
  clear hT1 f1 HTm HRm
  go_enter Tryd.func8, Tryd.ntmps8
  go_wp2_with fail
  with_reducible refine HX.out.mono ?_
  rintro e w1 ⟨rfl, hw1⟩
  go_wp2_with fail
  with_reducible refine (HG.out _ (HE.out _ hw1)).mono ?_
  rintro e w2 ⟨rfl, hw2⟩
  have hw12 := grows hw1 hw2
  go_wp2_with fail
  with_reducible refine (HQ.out _ (HE.out _ hw12)).mono ?_
  rintro e w3 ⟨⟨vm, rfl, hm⟩, hw3⟩
  have hb := grows hw12 hw3
  have HVm := Lib.hid hm
  clear hm
  clear hw1 hw2 hw3 hw12
  go_wp2_with fail
  refine Quiet.region (by kernel_rfl) (by kernel_rfl) ?_
  repeat (go_big_quiet_step (first | (go_at_call 16; (with_reducible exact Quiet.calls (CR'.out _ _ _ HVm.out (Quiet.Behind.below _)))) | (go_at_call 24; (with_reducible exact Quiet.calls (CT.out _ _ _ HVm.out (Quiet.Behind.below _))))))
  refine wpQuiet_nil ?_
  rintro _ ⟨pq, rfl⟩
  have hb := grows hb pq.below
  generalize pq.world = w4 at hb ⊢
  have HV0 : Hid (TRow w4 v ls) := Lib.hid (HL.out.below hb)
  go_wp2_with fail
  with_reducible refine (HRl.out _ _ HV0.out).mono ?_
  rintro e w5 ⟨rfl, hb5⟩
  have HV5 := Lib.hid (HV0.out.below hb5)
  have hbx := grows hb hb5
  clear hb5 hb
  cases r with
  | true =>
    simp only [Bool.not_true] at hP hT
    go_wp2_with fail
    with_reducible refine (HPl.out _ _ HV5.out).mono ?_
    rintro e w6 ⟨rfl, hb6⟩
    have HV6 := Lib.hid (HV5.out.below hb6)
    have hby := grows hbx hb6
    clear hb6 hbx
    go_wp2_with fail
    with_reducible refine (HTl.out _ _ HV6.out).mono ?_
    rintro e w7 ⟨rfl, hb7⟩
    go_wp2
    go_ret
    exact ⟨rfl, grows hby hb7⟩
  | false =>
    simp only [Bool.not_false] at hP hT
    go_wp2_with fail
    with_reducible refine (HPl.out _ _ HV5.out).mono ?_
    rintro e w6 ⟨rfl, hb6⟩
    have HV6 := Lib.hid (HV5.out.below hb6)
    have hby := grows hbx hb6
    clear hb6 hbx
    go_wp2_with fail
    with_reducible refine (HTl.out _ _ HV6.out).mono ?_
    rintro e w7 ⟨rfl, hb7⟩
    go_wp2
    go_ret
    exact ⟨rfl, grows hby hb7⟩

set_option maxHeartbeats 8000000 in
set_option maxRecDepth 100000 in
theorem walk_sn (s t : ByteArray) (a b : Nat) (hab : (a : Int) ≤ (b : Int)) (hbs : (b : Int) ≤ (s.size : Int)) (xs : List Tm) (HRx : Hid (rightS xs = true)) (HUx : Hid ((putS xs).toList = (s.extract a b).toList)) 
    (HG : Hid (∀ W, Err W → Calls Tryd.prog 11 #[.string s, .int .i64 (a : Int)] W (TellsG (some (xs, (b : Int))) W)))
    (HQ : Hid (∀ W, Err W → Calls Tryd.prog 13 #[.string t] W (TellsS none W)))
    (v : Value) (ls : List Tm) (hF : Sel.Fair ls) (w : World) (hE : Err w) (hv : TRow w v ls) :
    Calls Tryd.prog 8 #[.string s, .int .i64 (a : Int), .string t, v] w fun e w' => e = .returned (.bool true) ∧ Below w.heap.size w w' := by
  have HX := Lib.hid (examples_any w hE)
  have HE : Hid (∀ W, Below w.heap.size w W → Err W) := Lib.hid fun W h => hE.below h
  have HL := Lib.hid hv
  obtain ⟨r, hr⟩ : ∃ r, r = rightS ls := ⟨_, rfl⟩
  obtain ⟨P0, hP0⟩ : ∃ x, x = putS ls := ⟨_, rfl⟩
  obtain ⟨T0, hT0⟩ : ∃ x, x = textS ls := ⟨_, rfl⟩
  have hP : (P0.toList == ([] : List UInt8)) = !r := by rw [hP0, hr]; exact put_none ls
  have hT : (T0.toList == [63]) = !r := by rw [hT0, hr]; exact text_none ls
  have HRl : Hid (∀ v W, TRow W v ls → Calls Tryd.prog 16 #[v] W fun e w' => e = .returned (.bool r) ∧ Below W.heap.size W w') := Lib.hid fun v W h => by rw [hr]; exact right_sel v ls W h hF
  have HPl : Hid (∀ v W, TRow W v ls → Calls Tryd.prog 22 #[v] W fun e w' => e = .returned (.string P0) ∧ Below W.heap.size W w') := Lib.hid fun v W h => by rw [hP0]; exact put_sel v ls W h hF
  have HTl : Hid (∀ v W, TRow W v ls → Calls Tryd.prog 24 #[v] W fun e w' => e = .returned (.string T0) ∧ Below W.heap.size W w') := Lib.hid fun v W h => by rw [hT0]; exact text_sel v ls W h hF
  clear hr hP0 hT0 hE hv
  have e1 := HUx.out
  obtain ⟨P1, hP1⟩ : ∃ x, x = putS xs := ⟨_, rfl⟩
  rw [← hP1] at e1
  have e1' : (P1.toList == (s.extract a b).toList) = true := by rw [e1]; simp
  have CR : Hid (∀ v w w', TRow w v xs → Below w.heap.size w w' → Calls Tryd.prog 16 #[v] w' fun e w'' => e = .returned (.bool true) ∧ Below w'.heap.size w' w'') := Lib.hid fun v w w' h hb => by rw [← HRx.out]; exact right_sel v xs w' (h.below hb) (fair_right HRx.out)
  have CP : Hid (∀ v w w', TRow w v xs → Below w.heap.size w w' → Calls Tryd.prog 22 #[v] w' fun e w'' => e = .returned (.string P1) ∧ Below w'.heap.size w' w'') := Lib.hid fun v w w' h hb => by rw [hP1]; exact put_sel v xs w' (h.below hb) (fair_right HRx.out)
  clear hP1 e1 HUx HRx
  have d1 : decide ((a : Int) < 0) = false := decide_eq_false (by omega)
  have d2 : decide (s.size < b) = false := decide_eq_false (by omega)
  have hp0 : (0 : Int) ≤ (a : Int) := by omega
  go_enter Tryd.func8, Tryd.ntmps8
  go_wp2_with fail
  with_reducible refine HX.out.mono ?_
  rintro e w1 ⟨rfl, hw1⟩
  go_wp2_with fail
  with_reducible refine (HG.out _ (HE.out _ hw1)).mono ?_
  rintro e w2 ⟨⟨vx, rfl, hx⟩, hw2⟩
  have hw12 := grows hw1 hw2
  go_wp2_with fail
  with_reducible refine (HQ.out _ (HE.out _ hw12)).mono ?_
  rintro e w3 ⟨rfl, hw3⟩
  have hb := grows hw12 hw3
  have HVx := Lib.hid (hx.below hw3)
  clear hx
  clear hw1 hw2 hw3 hw12
  go_wp2_with fail
  refine Quiet.region (by kernel_rfl) (by kernel_rfl) ?_
  repeat (go_big_quiet_step (first | (go_at_call 16; (with_reducible exact Quiet.calls (CR.out _ _ _ HVx.out (Quiet.Behind.below _)))) | (go_at_call 22; (with_reducible exact Quiet.calls (CP.out _ _ _ HVx.out (Quiet.Behind.below _))))))
  refine wpQuiet_nil ?_
  rintro _ ⟨pq, rfl⟩
  have hb := grows hb pq.below
  generalize pq.world = w4 at hb ⊢
  have HV0 : Hid (TRow w4 v ls) := Lib.hid (HL.out.below hb)
  go_wp2_with fail
  with_reducible refine (HRl.out _ _ HV0.out).mono ?_
  rintro e w5 ⟨rfl, hb5⟩
  have HV5 := Lib.hid (HV0.out.below hb5)
  have hbx := grows hb hb5
  clear hb5 hb
  cases r with
  | true =>
    simp only [Bool.not_true] at hP hT
    go_wp2_with fail
    with_reducible refine (HPl.out _ _ HV5.out).mono ?_
    rintro e w6 ⟨rfl, hb6⟩
    have HV6 := Lib.hid (HV5.out.below hb6)
    have hby := grows hbx hb6
    clear hb6 hbx
    go_wp2_with fail
    with_reducible refine (HTl.out _ _ HV6.out).mono ?_
    rintro e w7 ⟨rfl, hb7⟩
    go_wp2
    go_ret
    exact ⟨rfl, grows hby hb7⟩
  | false =>
    simp only [Bool.not_false] at hP hT
    go_wp2_with fail
    with_reducible refine (HPl.out _ _ HV5.out).mono ?_
    rintro e w6 ⟨rfl, hb6⟩
    have HV6 := Lib.hid (HV5.out.below hb6)
    have hby := grows hbx hb6
    clear hb6 hbx
    go_wp2_with fail
    with_reducible refine (HTl.out _ _ HV6.out).mono ?_
    rintro e w7 ⟨rfl, hb7⟩
    go_wp2
    go_ret
    exact ⟨rfl, grows hby hb7⟩

set_option maxHeartbeats 8000000 in
set_option maxRecDepth 100000 in
theorem walk_ss (s t : ByteArray) (a b : Nat) (hab : (a : Int) ≤ (b : Int)) (hbs : (b : Int) ≤ (s.size : Int)) (xs : List Tm) (HRx : Hid (rightS xs = true)) (HUx : Hid ((putS xs).toList = (s.extract a b).toList)) (ms : List Tm) (HRm : Hid (rightS ms = true)) (HTm : Hid ((textS ms).toList = t.toList))
    (HG : Hid (∀ W, Err W → Calls Tryd.prog 11 #[.string s, .int .i64 (a : Int)] W (TellsG (some (xs, (b : Int))) W)))
    (HQ : Hid (∀ W, Err W → Calls Tryd.prog 13 #[.string t] W (TellsS (some ms) W)))
    (v : Value) (ls : List Tm) (hF : Sel.Fair ls) (w : World) (hE : Err w) (hv : TRow w v ls) :
    Calls Tryd.prog 8 #[.string s, .int .i64 (a : Int), .string t, v] w fun e w' => e = .returned (.bool true) ∧ Below w.heap.size w w' := by
  have HX := Lib.hid (examples_any w hE)
  have HE : Hid (∀ W, Below w.heap.size w W → Err W) := Lib.hid fun W h => hE.below h
  have HL := Lib.hid hv
  obtain ⟨r, hr⟩ : ∃ r, r = rightS ls := ⟨_, rfl⟩
  obtain ⟨P0, hP0⟩ : ∃ x, x = putS ls := ⟨_, rfl⟩
  obtain ⟨T0, hT0⟩ : ∃ x, x = textS ls := ⟨_, rfl⟩
  have hP : (P0.toList == ([] : List UInt8)) = !r := by rw [hP0, hr]; exact put_none ls
  have hT : (T0.toList == [63]) = !r := by rw [hT0, hr]; exact text_none ls
  have HRl : Hid (∀ v W, TRow W v ls → Calls Tryd.prog 16 #[v] W fun e w' => e = .returned (.bool r) ∧ Below W.heap.size W w') := Lib.hid fun v W h => by rw [hr]; exact right_sel v ls W h hF
  have HPl : Hid (∀ v W, TRow W v ls → Calls Tryd.prog 22 #[v] W fun e w' => e = .returned (.string P0) ∧ Below W.heap.size W w') := Lib.hid fun v W h => by rw [hP0]; exact put_sel v ls W h hF
  have HTl : Hid (∀ v W, TRow W v ls → Calls Tryd.prog 24 #[v] W fun e w' => e = .returned (.string T0) ∧ Below W.heap.size W w') := Lib.hid fun v W h => by rw [hT0]; exact text_sel v ls W h hF
  clear hr hP0 hT0 hE hv
  have e1 := HUx.out
  obtain ⟨P1, hP1⟩ : ∃ x, x = putS xs := ⟨_, rfl⟩
  rw [← hP1] at e1
  have e1' : (P1.toList == (s.extract a b).toList) = true := by rw [e1]; simp
  have CR : Hid (∀ v w w', TRow w v xs → Below w.heap.size w w' → Calls Tryd.prog 16 #[v] w' fun e w'' => e = .returned (.bool true) ∧ Below w'.heap.size w' w'') := Lib.hid fun v w w' h hb => by rw [← HRx.out]; exact right_sel v xs w' (h.below hb) (fair_right HRx.out)
  have CP : Hid (∀ v w w', TRow w v xs → Below w.heap.size w w' → Calls Tryd.prog 22 #[v] w' fun e w'' => e = .returned (.string P1) ∧ Below w'.heap.size w' w'') := Lib.hid fun v w w' h hb => by rw [hP1]; exact put_sel v xs w' (h.below hb) (fair_right HRx.out)
  clear hP1 e1 HUx HRx
  have d1 : decide ((a : Int) < 0) = false := decide_eq_false (by omega)
  have d2 : decide (s.size < b) = false := decide_eq_false (by omega)
  have hp0 : (0 : Int) ≤ (a : Int) := by omega
  have f1 := HTm.out
  obtain ⟨T1, hT1⟩ : ∃ x, x = textS ms := ⟨_, rfl⟩
  rw [← hT1] at f1
  have f1' : (T1.toList == t.toList) = true := by rw [f1]; simp
  have CR' : Hid (∀ v w w', TRow w v ms → Below w.heap.size w w' → Calls Tryd.prog 16 #[v] w' fun e w'' => e = .returned (.bool true) ∧ Below w'.heap.size w' w'') := Lib.hid fun v w w' h hb => by rw [← HRm.out]; exact right_sel v ms w' (h.below hb) (fair_right HRm.out)
  have CT : Hid (∀ v w w', TRow w v ms → Below w.heap.size w w' → Calls Tryd.prog 24 #[v] w' fun e w'' => e = .returned (.string T1) ∧ Below w'.heap.size w' w'') := Lib.hid fun v w w' h hb => by rw [hT1]; exact text_sel v ms w' (h.below hb) (fair_right HRm.out)
  clear hT1 f1 HTm HRm
  go_enter Tryd.func8, Tryd.ntmps8
  go_wp2_with fail
  with_reducible refine HX.out.mono ?_
  rintro e w1 ⟨rfl, hw1⟩
  go_wp2_with fail
  with_reducible refine (HG.out _ (HE.out _ hw1)).mono ?_
  rintro e w2 ⟨⟨vx, rfl, hx⟩, hw2⟩
  have hw12 := grows hw1 hw2
  go_wp2_with fail
  with_reducible refine (HQ.out _ (HE.out _ hw12)).mono ?_
  rintro e w3 ⟨⟨vm, rfl, hm⟩, hw3⟩
  have hb := grows hw12 hw3
  have HVx := Lib.hid (hx.below hw3)
  clear hx
  have HVm := Lib.hid hm
  clear hm
  clear hw1 hw2 hw3 hw12
  go_wp2_with fail
  refine Quiet.region (by kernel_rfl) (by kernel_rfl) ?_
  repeat (go_big_quiet_step (first | (go_at_call 16; (with_reducible exact Quiet.calls (CR.out _ _ _ HVx.out (Quiet.Behind.below _)))) | (go_at_call 22; (with_reducible exact Quiet.calls (CP.out _ _ _ HVx.out (Quiet.Behind.below _)))) | (go_at_call 16; (with_reducible exact Quiet.calls (CR'.out _ _ _ HVm.out (Quiet.Behind.below _)))) | (go_at_call 24; (with_reducible exact Quiet.calls (CT.out _ _ _ HVm.out (Quiet.Behind.below _))))))
  refine wpQuiet_nil ?_
  rintro _ ⟨pq, rfl⟩
  have hb := grows hb pq.below
  generalize pq.world = w4 at hb ⊢
  have HV0 : Hid (TRow w4 v ls) := Lib.hid (HL.out.below hb)
  go_wp2_with fail
  with_reducible refine (HRl.out _ _ HV0.out).mono ?_
  rintro e w5 ⟨rfl, hb5⟩
  have HV5 := Lib.hid (HV0.out.below hb5)
  have hbx := grows hb hb5
  clear hb5 hb
  cases r with
  | true =>
    simp only [Bool.not_true] at hP hT
    go_wp2_with fail
    with_reducible refine (HPl.out _ _ HV5.out).mono ?_
    rintro e w6 ⟨rfl, hb6⟩
    have HV6 := Lib.hid (HV5.out.below hb6)
    have hby := grows hbx hb6
    clear hb6 hbx
    go_wp2_with fail
    with_reducible refine (HTl.out _ _ HV6.out).mono ?_
    rintro e w7 ⟨rfl, hb7⟩
    go_wp2
    go_ret
    exact ⟨rfl, grows hby hb7⟩
  | false =>
    simp only [Bool.not_false] at hP hT
    go_wp2_with fail
    with_reducible refine (HPl.out _ _ HV5.out).mono ?_
    rintro e w6 ⟨rfl, hb6⟩
    have HV6 := Lib.hid (HV5.out.below hb6)
    have hby := grows hbx hb6
    clear hb6 hbx
    go_wp2_with fail
    with_reducible refine (HTl.out _ _ HV6.out).mono ?_
    rintro e w7 ⟨rfl, hb7⟩
    go_wp2
    go_ret
    exact ⟨rfl, grows hby hb7⟩


theorem walk (s : ByteArray) (hs : s.size ≤ 140737488351232) (p : Int) (_ : -9223372036854775808 ≤ p) (_ : p ≤ 9223372036854775807) (t : ByteArray) (ht : t.size ≤ 140737488351232) (v : Value) (ls : List Tm) (hl : ls.length * 48 ≤ 140737488351232) (hz : ∀ t ∈ ls, t.1.size ≤ 140737488351232 ∧ t.2.2.length * 16 ≤ 140737488351232 ∧ ∀ x ∈ t.2.2, x.size ≤ 140737488351232) (w : World) (hE : Err w) (hv : TRow w v ls) :
    Calls Tryd.prog 8 #[.string s, .int .i64 p, .string t, v] w fun e w' => e = .returned (.bool true) ∧ Below w.heap.size w w' := by
  have hF : Sel.Fair ls := ⟨by omega, fun t ht => by obtain ⟨h1, h2, h3⟩ := hz t ht; exact ⟨by omega, by omega, fun x hx => by have := h3 x hx; omega⟩⟩
  have HG := Lib.hid (fun W hE => get_any s (by omega) p W hE)
  have HQ := Lib.hid (fun W hE => parse_any t (by omega) W hE)
  cases hg : getS s p with
  | none =>
    rw [hg] at HG
    cases hq : parseS t with
    | none => rw [hq] at HQ; exact walk_nn s t p HG HQ v ls hF w hE hv
    | some ms =>
      rw [hq] at HQ
      obtain ⟨h1, h2⟩ := parse_back hq
      exact walk_ns s t p ms (Lib.hid h1) (Lib.hid (by rw [h2])) HG HQ v ls hF w hE hv
  | some x =>
    rw [hg] at HG
    obtain ⟨xs, n⟩ := x
    obtain ⟨g1, a, b, rfl, rfl, hab, hbs, he⟩ := get_back hg
    cases hq : parseS t with
    | none => rw [hq] at HQ; exact walk_sn s t a b (by omega) (by omega) xs (Lib.hid g1) (Lib.hid (by rw [he])) HG HQ v ls hF w hE hv
    | some ms =>
      rw [hq] at HQ
      obtain ⟨h1, h2⟩ := parse_back hq
      exact walk_ss s t a b (by omega) (by omega) xs (Lib.hid g1) (Lib.hid (by rw [he])) ms (Lib.hid h1) (Lib.hid (by rw [h2])) HG HQ v ls hF w hE hv

open Go.ChangeShapes Go.WideShapes Go.ChangeAt
set_option maxRecDepth 100000 in
theorem lifted (os : Os) (started : os.Started) (H : Type) (enc : TypeId × Value → H) :
    ReturnsInHanded {} Tryd.checked os 8 .any (fun w args => (Rows.selOnceSpec.pre enc Tryd.prog Tryd.f8 Rows.selOnceRow.domain false w args ∧ laidMetH Tryd.prog Rows.selOnceRow.laid w) ∧ sizedMet enc Tryd.prog Tryd.f8 (OpenSpec.ofChange Rows.selOnceSpec) false w args)
      (Rows.selOnceSpec.post enc Tryd.prog Tryd.f8 false true false false) := by
  refine returnsInHanded_of_change_and (C := Tryd.checked) (X := fun w _ => laidMetH Tryd.prog Rows.selOnceRow.laid w) (fun _ _ _ hh h => h.of_heap hh) Ends.own started (by kernel_rfl) Tryd.func8
    (ChangeSpec.witness_shaped (enc := enc) (C := Tryd.checked) (os := os) (X := fun w _ => laidMetH Tryd.prog Rows.selOnceRow.laid w) false (World.laidAll Tryd.prog os Rows.selOnceRow.laid) #[.string ⟨#[]⟩, .int .i64 0, .string ⟨#[]⟩, .slice none 0 0] 8 (World.laidAll_os _ _ _)
      (World.shaped_of_ZipB (by kernel_rfl) (by kernel_rfl)) (by kernel_rfl) (by kernel_rfl) (by kernel_rfl)
      (by rw [MakeChecks.laidMetH_plain _ _ _ (by kernel_rfl)]; exact laidMet_laidAll _ (by kernel_rfl) (by kernel_rfl))) ?_
  intro W base args ds gs before hval0 hW _ hsz0 hL _
  have hval : ∀ (j : Nat) t v, Tryd.f8.params[j]? = some t → args[j]? = some v → Value.okWide Tryd.prog W .any base t v := hval0
  have hsz : (DataW.weightsEach Tryd.prog (Tryd.f8.params.toList ++ Rows.selOnceSpec.plain.varTypes Tryd.prog) (ds ++ gs)).all (· ≤ reachBytes) = true := hsz0
  have hW' := hW
  obtain ⟨p, q, hA0, hV, rfl, hfz, hnd⟩ := hW
  have hA : DataW.TrodAll enc Tryd.prog W 0 (fun _ => true) true Tryd.f8.params.toList args.toList ds p := hA0
  rw [Tryd.params8] at hA hval hsz
  obtain ⟨v0, vs0, d0, ds0, p0, q0, hargs, rfl, rfl, h0, r0⟩ := trodAll_cons hA
  obtain ⟨v1, vs1, d1, ds1, p1, q1, rfl, rfl, rfl, h1, r1⟩ := trodAll_cons r0
  obtain ⟨v2, vs2, d2, ds2, p2, q2, rfl, rfl, rfl, h2, r2⟩ := trodAll_cons r1
  obtain ⟨v3, vs3, d3, ds3, p3, q3, rfl, rfl, rfl, h3, r3⟩ := trodAll_cons r2
  obtain ⟨rfl, rfl, rfl⟩ := trodAll_nil r3
  obtain rfl : args = #[v0, v1, v2, v3] := by cases args; simp_all
  obtain ⟨rfl, rfl⟩ := trodVars_none hV
  obtain ⟨a0, rfl, rfl, rfl, w0⟩ := Go.ChangeMaps.open_string Tryd.underlying9 (hval 0 9 v0 rfl rfl) h0
  obtain ⟨a1, rfl, rfl, rfl, w1⟩ := open_int Tryd.underlying3 (hval 1 3 v1 rfl rfl) h1
  obtain ⟨a2, rfl, rfl, rfl, w2⟩ := Go.ChangeMaps.open_string Tryd.underlying9 (hval 2 9 v2 rfl rfl) h2
  obtain ⟨a3, w3, g3⟩ := Sel.open_terms Tryd.underlying22 (f0 := (Tryd.prog.fieldsOf 51)[0]!) (f1 := (Tryd.prog.fieldsOf 51)[1]!) (f2 := (Tryd.prog.fieldsOf 51)[2]!) (ts := 49) (es := 9) (by kernel_rfl) (by kernel_rfl) (by kernel_rfl) (by kernel_rfl) (by kernel_rfl) (by kernel_rfl) (by kernel_rfl) (by kernel_rfl) (by kernel_rfl) (by kernel_rfl) (by kernel_rfl) (by kernel_rfl) (by kernel_rfl) (by kernel_rfl) (hval 3 22 v3 rfl rfl) h3
  have q3 : ∀ n ∈ d3.weights Tryd.prog 22, n ≤ 140737488351232 := fun n hn => of_decide_eq_true (List.all_eq_true.1 hsz n (DataW.weights_mem_each (j := 3) rfl rfl n hn))
  have b3 := g3.reach (P := Tryd.prog) (f0 := (Tryd.prog.fieldsOf 51)[0]!) (f1 := (Tryd.prog.fieldsOf 51)[1]!) (f2 := (Tryd.prog.fieldsOf 51)[2]!) (ts := 49) (es := 9) Tryd.underlying22 (by kernel_rfl) (by kernel_rfl) (by kernel_rfl) (by kernel_rfl) (by kernel_rfl) q3
  have b0 : a0.size ≤ 140737488351232 := by have := sized_string hsz (j := 0) rfl rfl; rw [Array.length_toList] at this; exact this
  have b1 := bounds_i64 w1
  have b2 : a2.size ≤ 140737488351232 := by have := sized_string hsz (j := 2) rfl rfl; rw [Array.length_toList] at this; exact this
  refine (walk a0 b0 a1 b1.1 b1.2 a2 b2 v3 a3 b3.1 b3.2 W (Sel.err_met (by kernel_rfl) hL) w3).mono fun e W' ⟨he, hb⟩ => ?_
  subst he
  exact ⟨_, rfl, Ends.law_end Ends.laidOut (by rw [Tryd.params8]; decide +kernel) rfl (by kernel_rfl) Tryd.underlying4 hW' rfl hb⟩

theorem row : Rows.SelOnceSaid :=
  OpenClaim.holds_of_wide 8 Tryd.f8 rfl rfl rfl rfl rfl rfl rfl ⟨rfl, rfl, rfl, rfl, rfl⟩ rfl rfl rfl rfl rfl (by kernel_rfl) Tryd.func8 (by kernel_rfl)
    (of_decide_eq_true (by kernel_rfl)) (by unfold Func.isWrapper; first | (rw [if_pos (by decide +kernel)]; kernel_rfl) | (rw [if_neg (by decide +kernel)]; exact ⟨rfl, rfl⟩))
    (fun os started H enc _ => lifted os started H enc)

/-- The statement: the tied card. -/
theorem proved : Rows.SelOnceCardSaid :=
  Claim7.holds_tied_plain_at .later [] [.data, .sentinel, .pinned] true Rows.selOnceCard.stood.harness true row (fun _ h => by cases h) (by kernel_rfl) (fun _ h => by cases h) selOnce_row_tie rfl ⟨rfl, rfl⟩ (by kernel_rfl) rfl
    (fun f fn hf hfn => by
      obtain rfl : f = 8 := Option.some.inj ((show Tryd.prog.funcNamed "demesne/demesnelaw05.SelOnce" = some 8 by kernel_rfl).symm.trans hf) |>.symm
      obtain rfl : fn = Tryd.f8 := (Option.some.inj (Tryd.func8.symm.trans hfn)).symm
      exact ⟨by kernel_rfl, fun j t ht => by
        rw [Tryd.params8] at ht
        have hm : t ∈ [9, 3, 9, 22] := by simpa using Array.mem_of_getElem? ht
        have hall : ([9, 3, 9, 22].all fun u => !Tryd.prog.wantsStandIn u) = true := by kernel_rfl
        exact (show Tryd.prog.wantsStandIn t = false by simpa using List.all_eq_true.1 hall t hm)⟩)
    (by kernel_rfl)
end Go.Proofs.YtcgknkbigbbfdaaDoor.selOnce
