/-
  demesnelaw05.SelBack, for every input: what is put of a selector that is right is got where it stands, what is shown is parsed; two are put and shown alike just if they are the same (the law answers true, and its arguments read as before).
  Conditions: none beyond the row's own (the reach; what the row lists, tied by the card).
-/
import Derived.Test.YtcgknkbigbbfdaaDoorSMade
import Derived.Test.YtcgknkbigbbfdaaDoorSErr
import Derived.Test.YtcgknkbigbbfdaaDoorEnd
import Derived.Test.YtcgknkbigbbfdaaDoorTie
import Derived.Test.YtcgknkbigbbfdaaDoorCards
import Derived.LaidMore
import Derived.Lay
import Derived.PlainAid
import Derived.SevenTiedAt
import Derived.Stop.Joined
namespace Go.Proofs.YtcgknkbigbbfdaaDoor.selBack
open Go.RowKit Go.Proofs.YtcgknkbigbbfdaaDoor.Sel Go.Proofs.YtcgknkbigbbfdaaDoor.Texts Go.Proofs.YtcgknkbigbbfdaaDoor.Boxes Go.Proofs.YtcgknkbigbbfdaaDoor.Label Go.Proofs.YtcgknkbigbbfdaaDoor.Forms Go.Proofs.YtcgknkbigbbfdaaDoor.Word Go.Proofs.YtcgknkbigbbfdaaDoor.Args

theorem fair_right {ls : List Tm} (h : rightS ls = true) : Sel.Fair ls := by
  obtain ⟨h4, ht⟩ := rightS_parts h
  refine ⟨by omega, fun t htm => ?_⟩
  obtain ⟨h1, h2, h3, _⟩ := rightT_parts (ht t htm)
  exact ⟨by have := name_size h1; omega, by omega, fun x hx => by have := name_size (h3 x hx); omega⟩
theorem text_small {ls : List Tm} (h : rightS ls = true) : (textS ls).size ≤ 1000 := by
  obtain ⟨h4, ht⟩ := rightS_parts h
  unfold textS
  rw [if_pos h]
  split
  · decide
  · rw [str_len]
    have := glue_show 44 ls ht
    omega
theorem drop_size (a b : ByteArray) (r : List UInt8) (h : b.data.toList = a.data.toList ++ r) : b.data.toList.drop a.size = r := by
  rw [h, ← size_list, List.drop_left]

set_option maxHeartbeats 8000000 in
set_option maxRecDepth 100000 in
theorem walk (lv : Value) (lb : List UInt8) (mv : Value) (mb : List UInt8) (ahead : ByteArray) (h1 : ahead.size ≤ 140737488351232) (behind : ByteArray) (h2 : behind.size ≤ 140737488351232) (w : World) (hE : Err w) (hl : Bytes w lv lb) (hm : Bytes w mv mb) :
    Calls Tryd.prog 4 #[lv, mv, .string ahead, .string behind] w fun e w' => e = .returned (.bool true) ∧ Below w.heap.size w w' := by
  have HX := Lib.hid (examples_any w hE)
  have HE : Hid (∀ W, Below w.heap.size w W → Err W) := Lib.hid fun W h => hE.below h
  have HA1 : Hid (∀ W, Below w.heap.size w W → Calls Tryd.prog 26 #[lv] W fun e w' => (∃ u, e = .returned u ∧ TRow w' u (madeS lb)) ∧ Below W.heap.size W w') := Lib.hid fun W h => made_any lv lb W (hl.below h)
  have HA2 : Hid (∀ W, Below w.heap.size w W → Calls Tryd.prog 26 #[mv] W fun e w' => (∃ u, e = .returned u ∧ TRow w' u (madeS mb)) ∧ Below W.heap.size W w') := Lib.hid fun W h => made_any mv mb W (hm.below h)
  have hAr := madeS_right lb
  have hBr := madeS_right mb
  obtain ⟨A, hA⟩ : ∃ A, A = madeS lb := ⟨_, rfl⟩
  obtain ⟨B, hB⟩ : ∃ B, B = madeS mb := ⟨_, rfl⟩
  rw [← hA] at HA1 hAr
  rw [← hB] at HA2 hBr
  clear hA hB hl hm hE
  obtain ⟨PA, hPA⟩ : ∃ x, x = putS A := ⟨_, rfl⟩
  obtain ⟨PB, hPB⟩ : ∃ x, x = putS B := ⟨_, rfl⟩
  obtain ⟨TA, hTA⟩ : ∃ x, x = textS A := ⟨_, rfl⟩
  obtain ⟨TB, hTB⟩ : ∃ x, x = textS B := ⟨_, rfl⟩
  obtain ⟨same, hsame⟩ : ∃ b, b = decide (A = B) := ⟨_, rfl⟩
  have hzA : PA.size ≤ 1210 := by rw [hPA]; exact putS_small A
  have hzB : PB.size ≤ 1210 := by rw [hPB]; exact putS_small B
  have hzT : TA.size ≤ 1000 := by rw [hTA]; exact text_small hAr
  have ePP : (PA.toList == PB.toList) = same := by
    rw [beq_str, hsame, Bool.eq_iff_iff, decide_eq_true_eq, decide_eq_true_eq, hPA, hPB]
    exact ⟨putS_inj hAr hBr, fun h => by rw [h]⟩
  have eTT : (TA.toList == TB.toList) = same := by
    rw [beq_str, hsame, Bool.eq_iff_iff, decide_eq_true_eq, decide_eq_true_eq, hTA, hTB]
    exact ⟨textS_inj hAr hBr, fun h => by rw [h]⟩
  obtain ⟨S, hS⟩ : ∃ S, S = ahead ++ PA ++ PB ++ behind := ⟨_, rfl⟩
  have hSz : S.size = ahead.size + PA.size + PB.size + behind.size := by rw [hS, ByteArray.size_append, ByteArray.size_append, ByteArray.size_append]
  have hSl : S.data.toList = ahead.data.toList ++ (PA.data.toList ++ (PB.data.toList ++ behind.data.toList)) := by rw [hS]; simp
  have hg1 : getS S ((ahead.size : Nat) : Int) = some (A, ((ahead.size + PA.size : Nat) : Int)) := by
    rw [hPA]
    exact get_put hAr (by rw [← hPA]; exact drop_size ahead S _ hSl)
  have hg2 : getS S ((ahead.size + PA.size : Nat) : Int) = some (B, ((ahead.size + PA.size + PB.size : Nat) : Int)) := by
    rw [hPB]
    refine get_put (r := behind.data.toList) hBr ?_
    rw [← hPB, ← List.drop_drop, drop_size ahead S _ hSl, ← size_list PA, List.drop_left]
  have HG1 : Hid (∀ W, Err W → Calls Tryd.prog 11 #[.string S, .int .i64 (ahead.size : Int)] W (TellsG (some (A, ((ahead.size + PA.size : Nat) : Int))) W)) := Lib.hid fun W h => by rw [← hg1]; exact get_any S (by omega) _ W h
  have HG2 : Hid (∀ W, Err W → Calls Tryd.prog 11 #[.string S, .int .i64 ((ahead.size + PA.size : Nat) : Int)] W (TellsG (some (B, ((ahead.size + PA.size + PB.size : Nat) : Int))) W)) := Lib.hid fun W h => by rw [← hg2]; exact get_any S (by omega) _ W h
  have HPa : Hid (∀ W, Err W → Calls Tryd.prog 13 #[.string TA] W (TellsS (some A) W)) := Lib.hid fun W h => by rw [hTA, ← parse_text hAr, ← hTA]; exact parse_any TA (by omega) W h
  have HPutA : Hid (∀ v W, TRow W v A → Calls Tryd.prog 22 #[v] W fun e w' => e = .returned (.string PA) ∧ Below W.heap.size W w') := Lib.hid fun v W h => by rw [hPA]; exact put_sel v A W h (fair_right hAr)
  have HPutB : Hid (∀ v W, TRow W v B → Calls Tryd.prog 22 #[v] W fun e w' => e = .returned (.string PB) ∧ Below W.heap.size W w') := Lib.hid fun v W h => by rw [hPB]; exact put_sel v B W h (fair_right hBr)
  have HTxA : Hid (∀ v W, TRow W v A → Calls Tryd.prog 24 #[v] W fun e w' => e = .returned (.string TA) ∧ Below W.heap.size W w') := Lib.hid fun v W h => by rw [hTA]; exact text_sel v A W h (fair_right hAr)
  have HTxB : Hid (∀ v W, TRow W v B → Calls Tryd.prog 24 #[v] W fun e w' => e = .returned (.string TB) ∧ Below W.heap.size W w') := Lib.hid fun v W h => by rw [hTB]; exact text_sel v B W h (fair_right hBr)
  have HRt : Hid (∀ v W, TRow W v A → Calls Tryd.prog 16 #[v] W fun e w' => e = .returned (.bool true) ∧ Below W.heap.size W w') := Lib.hid fun v W h => by rw [← hAr]; exact right_sel v A W h (fair_right hAr)
  have HSm : Hid (∀ u v W, TRow W u A → TRow W v B → Calls Tryd.prog 21 #[u, v] W fun e w' => e = .returned (.bool same) ∧ Below W.heap.size W w') := Lib.hid fun u v W h1 h2 => by rw [hsame]; exact same_any u v A B W h1 h2 (fair_right hAr)
  have HSA : Hid (∀ u v W, TRow W u A → TRow W v A → Calls Tryd.prog 21 #[u, v] W fun e w' => e = .returned (.bool true) ∧ Below W.heap.size W w') := Lib.hid fun u v W h1 h2 => by have := same_any u v A A W h1 h2 (fair_right hAr); rwa [decide_eq_true rfl] at this
  have HSB : Hid (∀ u v W, TRow W u B → TRow W v B → Calls Tryd.prog 21 #[u, v] W fun e w' => e = .returned (.bool true) ∧ Below W.heap.size W w') := Lib.hid fun u v W h1 h2 => by have := same_any u v B B W h1 h2 (fair_right hBr); rwa [decide_eq_true rfl] at this
  have add1 : ∀ w, Sem.run Tryd.prog (Op.stringOp .add ahead PA) w = .ok (.string (ahead ++ PA)) w := fun w => run_string_add_sum w _ _ (by omega)
  have add2 : ∀ w, Sem.run Tryd.prog (Op.stringOp .add (ahead ++ PA) PB) w = .ok (.string (ahead ++ PA ++ PB)) w := fun w => run_string_add_sum w _ _ (by rw [ByteArray.size_append]; omega)
  have add3 : ∀ w, Sem.run Tryd.prog (Op.stringOp .add (ahead ++ PA ++ PB) behind) w = .ok (.string S) w := fun w => by rw [hS]; exact run_string_add_sum w _ _ (by rw [ByteArray.size_append, ByteArray.size_append]; omega)
  have hss : (same == same) = true := by simp
  have hend : IntKind.i64.wrap ((S.size : Int) - (behind.size : Int)) = ((ahead.size + PA.size + PB.size : Nat) : Int) := by rw [IntKind.wrap_i64]; omega
  have HSz := Lib.hid hSz
  obtain ⟨p1, hp1⟩ : ∃ p, p = ((ahead.size + PA.size : Nat) : Int) := ⟨_, rfl⟩
  obtain ⟨p2, hp2⟩ : ∃ p, p = ((ahead.size + PA.size + PB.size : Nat) : Int) := ⟨_, rfl⟩
  rw [← hp1] at HG1 HG2
  rw [← hp2] at HG2 hend
  have hpp : (p2 == p2) = true := by simp
  clear hPA hPB hTA hTB hsame hS hSz hSl hg1 hg2 hp1 hp2 hAr hBr
  go_enter Tryd.func4, Tryd.ntmps4
  go_wp2_with fail
  with_reducible refine HX.out.mono ?_
  rintro e w1 ⟨rfl, b1⟩
  go_wp2_with fail
  with_reducible refine (HA1.out _ b1).mono ?_
  rintro e w2 ⟨⟨va, rfl, hva⟩, b2⟩
  have b2 := grows b1 b2
  go_wp2_with fail
  with_reducible refine (HA2.out _ b2).mono ?_
  rintro e w3 ⟨⟨vb, rfl, hvb⟩, k3⟩
  have VA3 := Lib.hid (hva.below k3)
  have VB3 := Lib.hid hvb
  have b3 := grows b2 k3
  clear hva hvb k3 b1 b2 HA1 HA2
  go_wp2_with fail
  with_reducible refine (HPutA.out _ _ VA3.out).mono ?_
  rintro e w4 ⟨rfl, k4⟩
  have VA4 := Lib.hid (VA3.out.below k4)
  have VB4 := Lib.hid (VB3.out.below k4)
  have b4 := grows b3 k4
  clear k4 b3 VA3 VB3
  go_wp2_with fail
  with_reducible refine (HPutB.out _ _ VB4.out).mono ?_
  rintro e w5 ⟨rfl, k5⟩
  have VA5 := Lib.hid (VA4.out.below k5)
  have VB5 := Lib.hid (VB4.out.below k5)
  have b5 := grows b4 k5
  clear k5 b4 VA4 VB4
  go_wp2_with fail
  with_reducible refine (HG1.out _ (HE.out _ b5)).mono ?_
  rintro e w6 ⟨⟨vx, rfl, hvx⟩, k6⟩
  have VX6 := Lib.hid hvx
  have VA6 := Lib.hid (VA5.out.below k6)
  have VB6 := Lib.hid (VB5.out.below k6)
  have b6 := grows b5 k6
  clear k6 b5 VA5 VB5 hvx HG1
  go_wp2_with fail
  with_reducible refine (HG2.out _ (HE.out _ b6)).mono ?_
  rintro e w7 ⟨⟨vy, rfl, hvy⟩, k7⟩
  have VY7 := Lib.hid hvy
  have VX7 := Lib.hid (VX6.out.below k7)
  have VA7 := Lib.hid (VA6.out.below k7)
  have VB7 := Lib.hid (VB6.out.below k7)
  have b7 := grows b6 k7
  clear k7 b6 VA6 VB6 VX6 hvy HG2
  go_wp2_with fail
  with_reducible refine (HTxA.out _ _ VA7.out).mono ?_
  rintro e w8 ⟨rfl, k8⟩
  have b8 := grows b7 k8
  have VY8 := Lib.hid (VY7.out.below k8)
  have VX8 := Lib.hid (VX7.out.below k8)
  have VA8 := Lib.hid (VA7.out.below k8)
  have VB8 := Lib.hid (VB7.out.below k8)
  clear k8 b7 VY7 VX7 VA7 VB7
  go_wp2_with fail
  with_reducible refine (HPa.out _ (HE.out _ b8)).mono ?_
  rintro e w9 ⟨⟨vp, rfl, hvp⟩, k9⟩
  have VP9 := Lib.hid hvp
  have VY9 := Lib.hid (VY8.out.below k9)
  have VX9 := Lib.hid (VX8.out.below k9)
  have VA9 := Lib.hid (VA8.out.below k9)
  have VB9 := Lib.hid (VB8.out.below k9)
  have b9 := grows b8 k9
  clear k9 b8 VY8 VX8 VA8 VB8 hvp HPa HE
  go_wp2_with fail
  with_reducible refine (HSm.out _ _ _ VA9.out VB9.out).mono ?_
  rintro e wa ⟨rfl, ka⟩
  have VPa := Lib.hid (VP9.out.below ka)
  have VYa := Lib.hid (VY9.out.below ka)
  have VXa := Lib.hid (VX9.out.below ka)
  have VAa := Lib.hid (VA9.out.below ka)
  have VBa := Lib.hid (VB9.out.below ka)
  have ba := grows b9 ka
  clear ka b9 VY9 VX9 VA9 VB9 VP9
  go_wp2_with fail
  with_reducible refine (HRt.out _ _ VAa.out).mono ?_
  rintro e wb ⟨rfl, kb⟩
  have bb := grows ba kb
  go_wp2_with fail
  with_reducible refine (HSA.out _ _ _ (VXa.out.below kb) (VAa.out.below kb)).mono ?_
  rintro e wc ⟨rfl, kc⟩
  have kc := grows kb kc
  have bc := grows ba kc
  clear kb bb
  go_wp2_with fail
  with_reducible refine (HSB.out _ _ _ (VYa.out.below kc) (VBa.out.below kc)).mono ?_
  rintro e wd ⟨rfl, kd⟩
  have kd := grows kc kd
  clear kc bc
  go_wp2_with fail
  with_reducible refine (HSA.out _ _ _ (VPa.out.below kd) (VAa.out.below kd)).mono ?_
  rintro e we ⟨rfl, ke⟩
  have ke := grows kd ke
  clear kd
  go_wp2_with fail
  with_reducible refine (HPutA.out _ _ (VAa.out.below ke)).mono ?_
  rintro e wf ⟨rfl, kf⟩
  have kf := grows ke kf
  clear ke
  go_wp2_with fail
  with_reducible refine (HPutB.out _ _ (VBa.out.below kf)).mono ?_
  rintro e wg ⟨rfl, kg⟩
  have kg := grows kf kg
  clear kf
  go_wp2_with fail
  with_reducible refine (HTxA.out _ _ (VAa.out.below kg)).mono ?_
  rintro e wh ⟨rfl, kh⟩
  have kh := grows kg kh
  clear kg
  go_wp2_with fail
  with_reducible refine (HTxB.out _ _ (VBa.out.below kh)).mono ?_
  rintro e wi ⟨rfl, ki⟩
  have ki := grows kh ki
  clear kh
  go_wp2
  go_ret
  exact ⟨rfl, grows ba ki⟩

open Go.ChangeShapes Go.WideShapes Go.ChangeAt
set_option maxRecDepth 100000 in
theorem lifted (os : Os) (started : os.Started) (H : Type) (enc : TypeId × Value → H) :
    ReturnsInHanded {} Tryd.checked os 4 .any (fun w args => (Rows.selBackSpec.pre enc Tryd.prog Tryd.f4 Rows.selBackRow.domain false w args ∧ laidMetH Tryd.prog Rows.selBackRow.laid w) ∧ sizedMet enc Tryd.prog Tryd.f4 (OpenSpec.ofChange Rows.selBackSpec) false w args)
      (Rows.selBackSpec.post enc Tryd.prog Tryd.f4 false true false false) := by
  refine returnsInHanded_of_change_and (C := Tryd.checked) (X := fun w _ => laidMetH Tryd.prog Rows.selBackRow.laid w) (fun _ _ _ hh h => h.of_heap hh) Ends.own started (by kernel_rfl) Tryd.func4
    (ChangeSpec.witness_shaped (enc := enc) (C := Tryd.checked) (os := os) (X := fun w _ => laidMetH Tryd.prog Rows.selBackRow.laid w) false (World.laidAll Tryd.prog os Rows.selBackRow.laid) #[.slice none 0 0, .slice none 0 0, .string ⟨#[]⟩, .string ⟨#[]⟩] 8 (World.laidAll_os _ _ _)
      (World.shaped_of_ZipB (by kernel_rfl) (by kernel_rfl)) (by kernel_rfl) (by kernel_rfl) (by kernel_rfl)
      (by rw [MakeChecks.laidMetH_plain _ _ _ (by kernel_rfl)]; exact laidMet_laidAll _ (by kernel_rfl) (by kernel_rfl))) ?_
  intro W base args ds gs before hval0 hW _ hsz0 hL _
  have hval : ∀ (j : Nat) t v, Tryd.f4.params[j]? = some t → args[j]? = some v → Value.okWide Tryd.prog W .any base t v := hval0
  have hsz : (DataW.weightsEach Tryd.prog (Tryd.f4.params.toList ++ Rows.selBackSpec.plain.varTypes Tryd.prog) (ds ++ gs)).all (· ≤ reachBytes) = true := hsz0
  have hW' := hW
  obtain ⟨p, q, hA0, hV, rfl, hfz, hnd⟩ := hW
  have hA : DataW.TrodAll enc Tryd.prog W 0 (fun _ => true) true Tryd.f4.params.toList args.toList ds p := hA0
  rw [Tryd.params4] at hA hval hsz
  obtain ⟨v0, vs0, d0, ds0, p0, q0, hargs, rfl, rfl, h0, r0⟩ := trodAll_cons hA
  obtain ⟨v1, vs1, d1, ds1, p1, q1, rfl, rfl, rfl, h1, r1⟩ := trodAll_cons r0
  obtain ⟨v2, vs2, d2, ds2, p2, q2, rfl, rfl, rfl, h2, r2⟩ := trodAll_cons r1
  obtain ⟨v3, vs3, d3, ds3, p3, q3, rfl, rfl, rfl, h3, r3⟩ := trodAll_cons r2
  obtain ⟨rfl, rfl, rfl⟩ := trodAll_nil r3
  obtain rfl : args = #[v0, v1, v2, v3] := by cases args; simp_all
  obtain ⟨rfl, rfl⟩ := trodVars_none hV
  obtain ⟨a0, w0⟩ := Args.open_bytes Tryd.underlying46 Tryd.underlying5 (by kernel_rfl) (hval 0 46 v0 rfl rfl) h0
  obtain ⟨a1, w1⟩ := Args.open_bytes Tryd.underlying46 Tryd.underlying5 (by kernel_rfl) (hval 1 46 v1 rfl rfl) h1
  obtain ⟨a2, rfl, rfl, rfl, w2⟩ := Go.ChangeMaps.open_string Tryd.underlying9 (hval 2 9 v2 rfl rfl) h2
  obtain ⟨a3, rfl, rfl, rfl, w3⟩ := Go.ChangeMaps.open_string Tryd.underlying9 (hval 3 9 v3 rfl rfl) h3
  have b2 : a2.size ≤ 140737488351232 := by have := sized_string hsz (j := 2) rfl rfl; rw [Array.length_toList] at this; exact this
  have b3 : a3.size ≤ 140737488351232 := by have := sized_string hsz (j := 3) rfl rfl; rw [Array.length_toList] at this; exact this
  refine (walk v0 a0 v1 a1 a2 b2 a3 b3 W (Sel.err_met (by kernel_rfl) hL) w0 w1).mono fun e W' ⟨he, hb⟩ => ?_
  subst he
  exact ⟨_, rfl, Ends.law_end Ends.laidOut (by rw [Tryd.params4]; decide +kernel) rfl (by kernel_rfl) Tryd.underlying4 hW' rfl hb⟩

theorem row : Rows.SelBackSaid :=
  OpenClaim.holds_of_wide 4 Tryd.f4 rfl rfl rfl rfl rfl rfl rfl ⟨rfl, rfl, rfl, rfl, rfl⟩ rfl rfl rfl rfl rfl (by kernel_rfl) Tryd.func4 (by kernel_rfl)
    (of_decide_eq_true (by kernel_rfl)) (by unfold Func.isWrapper; first | (rw [if_pos (by decide +kernel)]; kernel_rfl) | (rw [if_neg (by decide +kernel)]; exact ⟨rfl, rfl⟩))
    (fun os started H enc _ => lifted os started H enc)

/-- The statement: the tied card. -/
theorem proved : Rows.SelBackCardSaid :=
  Claim7.holds_tied_plain_at .later [] [.data, .sentinel, .pinned] true Rows.selBackCard.stood.harness true row (fun _ h => by cases h) (by kernel_rfl) (fun _ h => by cases h) selBack_row_tie rfl ⟨rfl, rfl⟩ (by kernel_rfl) rfl
    (fun f fn hf hfn => by
      obtain rfl : f = 4 := Option.some.inj ((show Tryd.prog.funcNamed "demesne/demesnelaw05.SelBack" = some 4 by kernel_rfl).symm.trans hf) |>.symm
      obtain rfl : fn = Tryd.f4 := (Option.some.inj (Tryd.func4.symm.trans hfn)).symm
      exact ⟨by kernel_rfl, fun j t ht => by
        rw [Tryd.params4] at ht
        have hm : t ∈ [46, 46, 9, 9] := by simpa using Array.mem_of_getElem? ht
        have hall : ([46, 46, 9, 9].all fun u => !Tryd.prog.wantsStandIn u) = true := by kernel_rfl
        exact (show Tryd.prog.wantsStandIn t = false by simpa using List.all_eq_true.1 hall t hm)⟩)
    (by kernel_rfl)
end Go.Proofs.YtcgknkbigbbfdaaDoor.selBack
