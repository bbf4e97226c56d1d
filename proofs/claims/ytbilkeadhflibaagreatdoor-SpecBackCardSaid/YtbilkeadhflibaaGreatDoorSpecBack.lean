/-
  demesnelaw11.SpecBack, for every input: what is put of a job that may be is got where it stands, what is shown is parsed by its words; two are put and shown alike just if they are the same (the law answers true, and its arguments read as before).
  Conditions: none beyond the row's own (the reach; what the row lists, tied by the card).
-/
import Derived.Test.YtbilkeadhflibaaGreatDoorJL4
import Derived.Test.YtbilkeadhflibaaGreatDoorJWords
import Derived.Test.YtbilkeadhflibaaGreatDoorTie
import Derived.Test.YtbilkeadhflibaaGreatDoorCards
import Derived.LaidMore
import Derived.Lay
import Derived.PlainAid
import Derived.SevenTiedAt
import Derived.Stop.Joined
import Derived.Deep.Cut
namespace Go.Proofs.YtbilkeadhflibaaGreatDoor.specBack
open Go.RowKit Go.Proofs.YtbilkeadhflibaaGreatDoor.Wire Go.Proofs.YtbilkeadhflibaaGreatDoor.Vec Go.Proofs.YtbilkeadhflibaaGreatDoor.Sel Go.Proofs.YtbilkeadhflibaaGreatDoor.Texts Go.Proofs.YtbilkeadhflibaaGreatDoor.Args Go.Proofs.YtbilkeadhflibaaGreatDoor.Job Go.Proofs.YtbilkeadhflibaaGreatDoor.Forms

set_option maxHeartbeats 8000000 in
set_option maxRecDepth 100000 in
theorem walkL (lv mv : Value) (ahead behind S PA PB TA TB : ByteArray) (same : Bool) (pa : ByteArray) (a0 a1 a2 a3 na ma ka : Int) (ta : List Tm) (pb : ByteArray) (b0 b1 b2 b3 nb mb kb : Int) (tb : List Tm) (w : World) (p1 p2 : Int)
    (HX : Hid (Calls Tryz.prog 9 #[] w fun e w' => e = .returned (.bool true) ∧ Below w.heap.size w w'))
    (HMA : Hid (∀ W, Below w.heap.size w W → Calls Tryz.prog 26 #[lv] W fun e w' => (∃ u, e = .returned (.agg #[.string pa, .int .u64 a0, .int .u64 a1, .int .u64 a2, .int .u64 a3, .int .i64 na, .int .i64 ma, .int .i64 ka, u]) ∧ TRow w' u ta) ∧ Below W.heap.size W w'))
    (HMB : Hid (∀ W, Below w.heap.size w W → Calls Tryz.prog 26 #[mv] W fun e w' => (∃ u, e = .returned (.agg #[.string pb, .int .u64 b0, .int .u64 b1, .int .u64 b2, .int .u64 b3, .int .i64 nb, .int .i64 mb, .int .i64 kb, u]) ∧ TRow w' u tb) ∧ Below W.heap.size W w'))
    (HCA : Hid (∀ u W, TRow W u ta → Calls Tryz.prog 19 #[.agg #[.string pa, .int .u64 a0, .int .u64 a1, .int .u64 a2, .int .u64 a3, .int .i64 na, .int .i64 ma, .int .i64 ka, u]] W fun e w' => e = .returned (.int .i64 0) ∧ Below W.heap.size W w')) (HCB : Hid (∀ u W, TRow W u tb → Calls Tryz.prog 19 #[.agg #[.string pb, .int .u64 b0, .int .u64 b1, .int .u64 b2, .int .u64 b3, .int .i64 nb, .int .i64 mb, .int .i64 kb, u]] W fun e w' => e = .returned (.int .i64 0) ∧ Below W.heap.size W w'))
    (HPA : Hid (∀ u W, TRow W u ta → Calls Tryz.prog 22 #[.agg #[.string pa, .int .u64 a0, .int .u64 a1, .int .u64 a2, .int .u64 a3, .int .i64 na, .int .i64 ma, .int .i64 ka, u]] W fun e w' => e = .returned (.string PA) ∧ Below W.heap.size W w')) (HPB : Hid (∀ u W, TRow W u tb → Calls Tryz.prog 22 #[.agg #[.string pb, .int .u64 b0, .int .u64 b1, .int .u64 b2, .int .u64 b3, .int .i64 nb, .int .i64 mb, .int .i64 kb, u]] W fun e w' => e = .returned (.string PB) ∧ Below W.heap.size W w'))
    (HTA : Hid (∀ u W, Below w.heap.size w W → TRow W u ta → Calls Tryz.prog 24 #[.agg #[.string pa, .int .u64 a0, .int .u64 a1, .int .u64 a2, .int .u64 a3, .int .i64 na, .int .i64 ma, .int .i64 ka, u]] W fun e w' => e = .returned (.string TA) ∧ Below W.heap.size W w')) (HTB : Hid (∀ u W, Below w.heap.size w W → TRow W u tb → Calls Tryz.prog 24 #[.agg #[.string pb, .int .u64 b0, .int .u64 b1, .int .u64 b2, .int .u64 b3, .int .i64 nb, .int .i64 mb, .int .i64 kb, u]] W fun e w' => e = .returned (.string TB) ∧ Below W.heap.size W w'))
    (HSS : Hid (∀ u v W, TRow W u ta → TRow W v tb → Calls Tryz.prog 21 #[.agg #[.string pa, .int .u64 a0, .int .u64 a1, .int .u64 a2, .int .u64 a3, .int .i64 na, .int .i64 ma, .int .i64 ka, u], .agg #[.string pb, .int .u64 b0, .int .u64 b1, .int .u64 b2, .int .u64 b3, .int .i64 nb, .int .i64 mb, .int .i64 kb, v]] W fun e w' => e = .returned (.bool same) ∧ Below W.heap.size W w')) (HSA : Hid (∀ u v W, TRow W u ta → TRow W v ta → Calls Tryz.prog 21 #[.agg #[.string pa, .int .u64 a0, .int .u64 a1, .int .u64 a2, .int .u64 a3, .int .i64 na, .int .i64 ma, .int .i64 ka, u], .agg #[.string pa, .int .u64 a0, .int .u64 a1, .int .u64 a2, .int .u64 a3, .int .i64 na, .int .i64 ma, .int .i64 ka, v]] W fun e w' => e = .returned (.bool true) ∧ Below W.heap.size W w')) (HSB : Hid (∀ u v W, TRow W u tb → TRow W v tb → Calls Tryz.prog 21 #[.agg #[.string pb, .int .u64 b0, .int .u64 b1, .int .u64 b2, .int .u64 b3, .int .i64 nb, .int .i64 mb, .int .i64 kb, u], .agg #[.string pb, .int .u64 b0, .int .u64 b1, .int .u64 b2, .int .u64 b3, .int .i64 nb, .int .i64 mb, .int .i64 kb, v]] W fun e w' => e = .returned (.bool true) ∧ Below W.heap.size W w'))
    (HG1 : Hid (∀ W, Below w.heap.size w W → Calls Tryz.prog 13 #[.string S, .int .i64 (ahead.size : Int)] W fun e w' => (∃ u, e = .returned (.tuple #[.agg #[.string pa, .int .u64 a0, .int .u64 a1, .int .u64 a2, .int .u64 a3, .int .i64 na, .int .i64 ma, .int .i64 ka, u], .int .i64 p1, .bool true]) ∧ TRow w' u ta) ∧ Below W.heap.size W w'))
    (HG2 : Hid (∀ W, Below w.heap.size w W → Calls Tryz.prog 13 #[.string S, .int .i64 p1] W fun e w' => (∃ u, e = .returned (.tuple #[.agg #[.string pb, .int .u64 b0, .int .u64 b1, .int .u64 b2, .int .u64 b3, .int .i64 nb, .int .i64 mb, .int .i64 kb, u], .int .i64 p2, .bool true]) ∧ TRow w' u tb) ∧ Below W.heap.size W w'))
    (HPr : Hid (∀ v W, Below w.heap.size w W → SRow W v (sp TA (TA.size + 1)).1 → Calls Tryz.prog 15 #[v] W fun e w' => (∃ u, e = .returned (.tuple #[.agg #[.string pa, .int .u64 a0, .int .u64 a1, .int .u64 a2, .int .u64 a3, .int .i64 na, .int .i64 ma, .int .i64 ka, u], .bool true]) ∧ TRow w' u ta) ∧ Below W.heap.size W w'))
    (hT : TA.size ≤ 1300) (h6 : (sp TA (TA.size + 1)).1.length = 6)
    (add1 : ∀ w, Sem.run Tryz.prog (Op.stringOp .add ahead PA) w = .ok (.string (ahead ++ PA)) w) (add2 : ∀ w, Sem.run Tryz.prog (Op.stringOp .add (ahead ++ PA) PB) w = .ok (.string (ahead ++ PA ++ PB)) w) (add3 : ∀ w, Sem.run Tryz.prog (Op.stringOp .add (ahead ++ PA ++ PB) behind) w = .ok (.string S) w)
    (ePP : (PA.toList == PB.toList) = same) (eTT : (TA.toList == TB.toList) = same) (hend : IntKind.i64.wrap ((S.size : Int) - (behind.size : Int)) = p2) :
    Calls Tryz.prog 4 #[lv, mv, .string ahead, .string behind] w fun e w' => e = .returned (.bool true) ∧ Below w.heap.size w w' := by
  have hss : (same == same) = true := by simp
  have hpp : (p2 == p2) = true := by simp
  go_enter Tryz.func4, Tryz.ntmps4
  go_wp2_with fail
  with_reducible refine HX.out.mono ?_
  rintro e w1 ⟨rfl, b1⟩
  go_wp2_with fail
  with_reducible refine (HMA.out _ b1).mono ?_
  rintro e w2 ⟨⟨u, rfl, hu⟩, k2⟩
  obtain ⟨ua, uc, rfl, _, _⟩ := hu.slice
  have b2 := grows b1 k2
  clear b1 k2
  go_upto_region 5 with fail
  have hN1 : AllB [(w2.heap.size, (box9 pa a0 a1 a2 a3 na ma ka (.slice ua ta.length uc)))] (w2.alloc (box9 pa a0 a1 a2 a3 na ma ka (.slice ua ta.length uc))) := (AllB.nil _).new _
  have hU1 := hu.below (grew w2 (box9 pa a0 a1 a2 a3 na ma ka (.slice ua ta.length uc)))
  have b1' := grows b2 (grew w2 (box9 pa a0 a1 a2 a3 na ma ka (.slice ua ta.length uc)))
  obtain ⟨KA, hKA⟩ : ∃ B, B = w2.heap.size := ⟨_, rfl⟩
  rw [← hKA] at hN1 ⊢
  unfold box9 at hN1 b1' hU1
  generalize w2.alloc _ = v1 at hN1 b1' hU1 ⊢
  have HB1 := Lib.hid hN1
  have HU1 := Lib.hid hU1
  clear hN1 hKA hU1 b2
  go_wp2_with fail
  with_reducible refine (HMB.out _ b1').mono ?_
  rintro e w3 ⟨⟨v, rfl, hv⟩, k3⟩
  obtain ⟨va, vc, rfl, _, _⟩ := hv.slice
  have HB2 := Lib.hid (HB1.out.more k3)
  have HU2 := Lib.hid (HU1.out.below k3)
  have b2' := grows b1' k3
  clear k3 b1' HB1
  go_upto_region 6 with fail
  have hN3 : AllB [(w3.heap.size, (box9 pb b0 b1 b2 b3 nb mb kb (.slice va tb.length vc))), (KA, (box9 pa a0 a1 a2 a3 na ma ka (.slice ua ta.length uc)))] (w3.alloc (box9 pb b0 b1 b2 b3 nb mb kb (.slice va tb.length vc))) := (HB2.out).new _
  have hU3 := HU2.out.below (grew w3 (box9 pb b0 b1 b2 b3 nb mb kb (.slice va tb.length vc)))
  have hV3 := hv.below (grew w3 (box9 pb b0 b1 b2 b3 nb mb kb (.slice va tb.length vc)))
  have b3' := grows b2' (grew w3 (box9 pb b0 b1 b2 b3 nb mb kb (.slice va tb.length vc)))
  obtain ⟨KB, hKB⟩ : ∃ B, B = w3.heap.size := ⟨_, rfl⟩
  rw [← hKB] at hN3 ⊢
  unfold box9 at hN3 b3' hU3 hV3
  generalize w3.alloc _ = v3 at hN3 b3' hU3 hV3 ⊢
  have HB3 := Lib.hid hN3
  have HU3 := Lib.hid hU3
  have HV3 := Lib.hid hV3
  clear hN3 hKB hU3 hV3 b2' HB2
  obtain ⟨⟨c0, c1, c2, c3, c4, c5, c6, c7, c8⟩, _⟩ := cells9 (HB3.out.get 1 rfl)
  obtain ⟨⟨d0, d1, d2, d3, d4, d5, d6, d7, d8⟩, _⟩ := cells9 (HB3.out.get 0 rfl)
  go_wp2_with fail
  with_reducible refine (HCA.out _ _ HU3.out).mono ?_
  rintro e w4 ⟨rfl, k4⟩
  clear c0 c1 c2 c3 c4 c5 c6 c7 c8 d0 d1 d2 d3 d4 d5 d6 d7 d8
  have HB4 := Lib.hid (HB3.out.more k4)
  have HU4 := Lib.hid (HU3.out.below k4)
  have HV4 := Lib.hid (HV3.out.below k4)
  have b4' := grows b3' k4
  clear k4 b3' HB3
  obtain ⟨⟨c0, c1, c2, c3, c4, c5, c6, c7, c8⟩, _⟩ := cells9 (HB4.out.get 1 rfl)
  obtain ⟨⟨d0, d1, d2, d3, d4, d5, d6, d7, d8⟩, _⟩ := cells9 (HB4.out.get 0 rfl)
  go_wp2_with fail
  with_reducible refine (HCB.out _ _ HV4.out).mono ?_
  rintro e w5 ⟨rfl, k5⟩
  clear c0 c1 c2 c3 c4 c5 c6 c7 c8 d0 d1 d2 d3 d4 d5 d6 d7 d8
  have HB5 := Lib.hid (HB4.out.more k5)
  have HU5 := Lib.hid (HU4.out.below k5)
  have HV5 := Lib.hid (HV4.out.below k5)
  have b5' := grows b4' k5
  clear k5 b4' HB4
  go_upto_region 8 with fail
  obtain ⟨⟨c0, c1, c2, c3, c4, c5, c6, c7, c8⟩, _⟩ := cells9 (HB5.out.get 1 rfl)
  have lC := (Array.getElem?_eq_some_iff.1 (HB5.out.get 1 rfl)).1
  have C0 := Quiet.cell lC c0
  have C1 := Quiet.cell lC c1
  have C2 := Quiet.cell lC c2
  have C3 := Quiet.cell lC c3
  have C4 := Quiet.cell lC c4
  have C5 := Quiet.cell lC c5
  have C6 := Quiet.cell lC c6
  have C7 := Quiet.cell lC c7
  have C8 := Quiet.cell lC c8
  clear lC c0 c1 c2 c3 c4 c5 c6 c7 c8
  obtain ⟨⟨d0, d1, d2, d3, d4, d5, d6, d7, d8⟩, _⟩ := cells9 (HB5.out.get 0 rfl)
  have lD := (Array.getElem?_eq_some_iff.1 (HB5.out.get 0 rfl)).1
  have D0 := Quiet.cell lD d0
  have D1 := Quiet.cell lD d1
  have D2 := Quiet.cell lD d2
  have D3 := Quiet.cell lD d3
  have D4 := Quiet.cell lD d4
  have D5 := Quiet.cell lD d5
  have D6 := Quiet.cell lD d6
  have D7 := Quiet.cell lD d7
  have D8 := Quiet.cell lD d8
  clear lD d0 d1 d2 d3 d4 d5 d6 d7 d8
  refine Quiet.region (by kernel_rfl) (by kernel_rfl) ?_
  repeat (go_big_quiet_step (first | (go_at_call 22; (with_reducible exact Quiet.calls (HPA.out _ _ (HU5.out.below (Quiet.Behind.below _))))) | (go_at_call 22; (with_reducible exact Quiet.calls (HPB.out _ _ (HV5.out.below (Quiet.Behind.below _)))))))
  refine wpQuiet_nil ?_
  rintro _ ⟨pq, rfl⟩
  have hq := pq.below
  generalize pq.world = wq at hq ⊢
  clear C0 C1 C2 C3 C4 C5 C6 C7 C8 D0 D1 D2 D3 D4 D5 D6 D7 D8
  have HB6 := Lib.hid (HB5.out.more hq)
  have HU6 := Lib.hid (HU5.out.below hq)
  have HV6 := Lib.hid (HV5.out.below hq)
  have b6' := grows b5' hq
  clear hq b5' HB5
  clear add1 add2 add3
  go_wp2_with fail
  with_reducible refine (HG1.out _ b6').mono ?_
  rintro e w6 ⟨⟨x, rfl, hx⟩, k6⟩
  obtain ⟨xa, xc, rfl, _, _⟩ := hx.slice
  have HB7 := Lib.hid (HB6.out.more k6)
  have HU7 := Lib.hid (HU6.out.below k6)
  have HV7 := Lib.hid (HV6.out.below k6)
  have b7' := grows b6' k6
  clear k6 b6' HB6
  go_upto_region 10 with fail
  have hN8 : AllB [(w6.heap.size, (box9 pa a0 a1 a2 a3 na ma ka (.slice xa ta.length xc))), (KB, (box9 pb b0 b1 b2 b3 nb mb kb (.slice va tb.length vc))), (KA, (box9 pa a0 a1 a2 a3 na ma ka (.slice ua ta.length uc)))] (w6.alloc (box9 pa a0 a1 a2 a3 na ma ka (.slice xa ta.length xc))) := (HB7.out).new _
  have hU8 := HU7.out.below (grew w6 (box9 pa a0 a1 a2 a3 na ma ka (.slice xa ta.length xc)))
  have hV8 := HV7.out.below (grew w6 (box9 pa a0 a1 a2 a3 na ma ka (.slice xa ta.length xc)))
  have hX8 := hx.below (grew w6 (box9 pa a0 a1 a2 a3 na ma ka (.slice xa ta.length xc)))
  have b8' := grows b7' (grew w6 (box9 pa a0 a1 a2 a3 na ma ka (.slice xa ta.length xc)))
  obtain ⟨KX, hKX⟩ : ∃ B, B = w6.heap.size := ⟨_, rfl⟩
  rw [← hKX] at hN8 ⊢
  unfold box9 at hN8 b8' hU8 hV8 hX8
  generalize w6.alloc _ = v8 at hN8 b8' hU8 hV8 hX8 ⊢
  have HB8 := Lib.hid hN8
  have HU8 := Lib.hid hU8
  have HV8 := Lib.hid hV8
  have HX8 := Lib.hid hX8
  clear hN8 hKX hU8 hV8 hX8 b7' HB7
  go_wp2_with fail
  with_reducible refine (HG2.out _ b8').mono ?_
  rintro e w7 ⟨⟨y, rfl, hy⟩, k7⟩
  obtain ⟨ya, yc, rfl, _, _⟩ := hy.slice
  have HB9 := Lib.hid (HB8.out.more k7)
  have HU9 := Lib.hid (HU8.out.below k7)
  have HV9 := Lib.hid (HV8.out.below k7)
  have HX9 := Lib.hid (HX8.out.below k7)
  have b9' := grows b8' k7
  clear k7 b8' HB8
  go_upto_region 11 with fail
  have hN10 : AllB [(w7.heap.size, (box9 pb b0 b1 b2 b3 nb mb kb (.slice ya tb.length yc))), (KX, (box9 pa a0 a1 a2 a3 na ma ka (.slice xa ta.length xc))), (KB, (box9 pb b0 b1 b2 b3 nb mb kb (.slice va tb.length vc))), (KA, (box9 pa a0 a1 a2 a3 na ma ka (.slice ua ta.length uc)))] (w7.alloc (box9 pb b0 b1 b2 b3 nb mb kb (.slice ya tb.length yc))) := (HB9.out).new _
  have hU10 := HU9.out.below (grew w7 (box9 pb b0 b1 b2 b3 nb mb kb (.slice ya tb.length yc)))
  have hV10 := HV9.out.below (grew w7 (box9 pb b0 b1 b2 b3 nb mb kb (.slice ya tb.length yc)))
  have hX10 := HX9.out.below (grew w7 (box9 pb b0 b1 b2 b3 nb mb kb (.slice ya tb.length yc)))
  have hY10 := hy.below (grew w7 (box9 pb b0 b1 b2 b3 nb mb kb (.slice ya tb.length yc)))
  have b10' := grows b9' (grew w7 (box9 pb b0 b1 b2 b3 nb mb kb (.slice ya tb.length yc)))
  obtain ⟨KY, hKY⟩ : ∃ B, B = w7.heap.size := ⟨_, rfl⟩
  rw [← hKY] at hN10 ⊢
  unfold box9 at hN10 b10' hU10 hV10 hX10 hY10
  generalize w7.alloc _ = v10 at hN10 b10' hU10 hV10 hX10 hY10 ⊢
  have HB10 := Lib.hid hN10
  have HU10 := Lib.hid hU10
  have HV10 := Lib.hid hV10
  have HX10 := Lib.hid hX10
  have HY10 := Lib.hid hY10
  clear hN10 hKY hU10 hV10 hX10 hY10 b9' HB9
  obtain ⟨⟨c0, c1, c2, c3, c4, c5, c6, c7, c8⟩, _⟩ := cells9 (HB10.out.get 3 rfl)
  go_wp2_with fail
  with_reducible refine (HTA.out _ _ b10' HU10.out).mono ?_
  rintro e w8 ⟨rfl, k8⟩
  clear c0 c1 c2 c3 c4 c5 c6 c7 c8
  have HB11 := Lib.hid (HB10.out.more k8)
  have HU11 := Lib.hid (HU10.out.below k8)
  have HV11 := Lib.hid (HV10.out.below k8)
  have HX11 := Lib.hid (HX10.out.below k8)
  have HY11 := Lib.hid (HY10.out.below k8)
  have b11' := grows b10' k8
  clear k8 b10' HB10
  go_wp2_with fail
  obtain ⟨i0, hi, hz0, hz1, hz2⟩ := info_parts infoS
  have HBel := Lib.hid b11'
  clear b11'
  go_loopw [19, 20, 22] (fun ws fr iv wr => ∃ i : Nat, i ≤ TA.size + 1 ∧ iv = .int .i64 i ∧ fr = .int .i64 ((sp TA i).2 : Nat) ∧ wr.ownsRow w8.heap.size 9 1 ws (sp TA i).1.length (svals (sp TA i).1) ∧ Below w8.heap.size w8 wr) (fun _ _ iv _ => TA.size + 1 - (intOf iv).toNat)
  case atStart => exact ⟨0, Nat.zero_le _, rfl, rfl, World.ownsRow_nil _ _ _ _, Below.refl _ _⟩
  case round =>
    obtain ⟨i, hi1, rfl, rfl, hown, hbr⟩ := hrel
    have hlen := sp_len TA i
    have HO := Lib.hid hown
    have HBr := Lib.hid hbr
    clear hown hbr
    by_cases hle : i ≤ TA.size
    · have hlez : (i : Int) ≤ (TA.size : Int) := by omega
      have hi0 : (0 : Int) ≤ (i : Int) := by omega
      obtain ⟨fr, hfr⟩ : ∃ fr, fr = (sp TA i).2 := ⟨_, rfl⟩
      have hfi : fr ≤ i := by rw [hfr]; exact (sp_at TA i hle).1
      have hf0 : (0 : Int) ≤ (fr : Int) := by omega
      have hfz : (fr : Int) ≤ (i : Int) := by omega
      have hsz : (TA.extract fr i).size ≤ 1300 := by rw [ByteArray.size_extract]; omega
      by_cases heq : i = TA.size
      · have hs1 : sp TA (i + 1) = ((sp TA i).1 ++ [TA.extract fr i], i + 1) := by
          rw [hfr]
          exact if_pos (.inl heq)
        have HS1 := Lib.hid hs1
        have heqz : ((i : Int) == (TA.size : Int)) = true := by rw [beq_iff_eq]; omega
        have Hfr := Lib.hid hfr
        rw [← hfr]
        clear hs1 hfr heq
        go_wp2_with (at_builtin; refine wpList_append_own _ rfl _ _ 28 rfl w8.heap.size 9 i0 (.string ByteArray.empty) 1 16 Tryz.underlying28 hi hz0 hz1 hz2 rfl (by decide) _ _ _ rfl (HO.out.alloc _) ⟨wr.heap.size, 0, none⟩ 1 1 [.string (TA.extract fr i)] rfl rfl ?c1 ?c2 ?c3 ?c4 ?c5 ?_)
        case c1 => exact cell_one_new _ _ _
        case c2 => first | rfl | (intro u hu; simp at hu; subst hu; rfl)
        case c3 => unfold maxLen; omega
        case c4 => omega
        case c5 => have := HBr.out.size; simp; omega
        intro v' w9 hown' hgrow _
        have hown9 : w9.ownsRow w8.heap.size 9 1 v' (sp TA (i + 1)).1.length (svals (sp TA (i + 1)).1) := by rw [HS1.out, svals_snoc, List.length_append]; exact hown'
        have hb9 : Below w8.heap.size w8 w9 := (HBr.out.alloc HBr.out.size _).grown hgrow (by have := HBr.out.size; simp; omega) (fun k hk => (HO.out.lt k hk).1)
        clear hown' hgrow
        go_wp2
        go_roundw
        case rel => exact ⟨i + 1, by omega, by go_num, by rw [HS1.out]; go_num, hown9, hb9⟩
        case measure => simp [intOf]; omega
      · have heqz : ((i : Int) == (TA.size : Int)) = false := by rw [beq_eq_false_iff_ne]; omega
        have hlt : i < TA.size := by omega
        have hltz : (i : Int) < (TA.size : Int) := by omega
        obtain ⟨d, hd⟩ : ∃ d, TA[i] = d := ⟨_, rfl⟩
        have hgd : TA.data.toList.getD i 0 = d := by
          rw [← hd, List.getD_eq_getElem?_getD, List.getElem?_eq_getElem (by rw [size_list]; omega)]
          rfl
        by_cases hd32 : d = 32
        · have hs1 : sp TA (i + 1) = ((sp TA i).1 ++ [TA.extract fr i], i + 1) := by
            rw [hfr]
            exact if_pos (.inr (by rw [hgd, hd32]))
          have HS1 := Lib.hid hs1
          have hdz : ((d.toNat : Int) == 32) = true := by rw [hd32]; rfl
          have Hfr := Lib.hid hfr
          rw [← hfr]
          clear hs1 hfr heq hgd hd32
          go_wp2_with (at_builtin; refine wpList_append_own _ rfl _ _ 28 rfl w8.heap.size 9 i0 (.string ByteArray.empty) 1 16 Tryz.underlying28 hi hz0 hz1 hz2 rfl (by decide) _ _ _ rfl (HO.out.alloc _) ⟨wr.heap.size, 0, none⟩ 1 1 [.string (TA.extract fr i)] rfl rfl ?c1 ?c2 ?c3 ?c4 ?c5 ?_)
          case c1 => exact cell_one_new _ _ _
          case c2 => first | rfl | (intro u hu; simp at hu; subst hu; rfl)
          case c3 => unfold maxLen; omega
          case c4 => omega
          case c5 => have := HBr.out.size; simp; omega
          intro v' w9 hown' hgrow _
          have hown9 : w9.ownsRow w8.heap.size 9 1 v' (sp TA (i + 1)).1.length (svals (sp TA (i + 1)).1) := by rw [HS1.out, svals_snoc, List.length_append]; exact hown'
          have hb9 : Below w8.heap.size w8 w9 := (HBr.out.alloc HBr.out.size _).grown hgrow (by have := HBr.out.size; simp; omega) (fun k hk => (HO.out.lt k hk).1)
          clear hown' hgrow
          go_wp2
          go_roundw
          case rel => exact ⟨i + 1, by omega, by go_num, by rw [HS1.out]; go_num, hown9, hb9⟩
          case measure => simp [intOf]; omega
        · have hs1 : sp TA (i + 1) = sp TA i := if_neg (by rw [hgd]; intro h; rcases h with h | h; exact heq h; exact hd32 h)
          have HS1 := Lib.hid hs1
          have hdz : ((d.toNat : Int) == 32) = false := by
            rw [beq_eq_false_iff_ne]
            intro h
            exact hd32 (UInt8.toNat_inj.1 (by have : (32 : UInt8).toNat = 32 := rfl; omega))
          have Hfr := Lib.hid hfr
          rw [← hfr]
          clear hs1 hfr heq hgd hd32
          go_wp2
          go_roundw
          case rel => exact ⟨i + 1, by omega, by go_num, by rw [HS1.out, Hfr.out], by rw [HS1.out]; exact HO.out, HBr.out⟩
          case measure => simp [intOf]; omega
    · have hi7 : i = TA.size + 1 := by omega
      have hlez : ¬ (i : Int) ≤ (TA.size : Int) := by omega
      have hown := HO.out
      rw [hi7] at hown
      have hsr := own_srow (T := 9) (B := w8.heap.size) hown
      clear hown
      obtain ⟨wa, wcap, hwv, _, _⟩ := hsr.slice
      rw [h6] at hwv
      subst hwv
      have hbr := HBr.out
      have bel := HBel.out
      clear hi7 hle hi1 hlen HO i0 hi hz0 hz1 hz2
      have HB12 := Lib.hid (HB11.out.more hbr)
      have HU12 := Lib.hid (HU11.out.below hbr)
      have HV12 := Lib.hid (HV11.out.below hbr)
      have HX12 := Lib.hid (HX11.out.below hbr)
      have HY12 := Lib.hid (HY11.out.below hbr)
      have b12' := grows bel hbr
      clear hbr bel HB11
      go_wp2_with fail
      with_reducible refine (HPr.out _ _ b12' hsr).mono ?_
      rintro e w10 ⟨⟨z, rfl, hz⟩, k10⟩
      obtain ⟨za, zc, rfl, _, _⟩ := hz.slice
      have HB13 := Lib.hid (HB12.out.more k10)
      have HU13 := Lib.hid (HU12.out.below k10)
      have HV13 := Lib.hid (HV12.out.below k10)
      have HX13 := Lib.hid (HX12.out.below k10)
      have HY13 := Lib.hid (HY12.out.below k10)
      have b13' := grows b12' k10
      clear k10 b12' HB12
      go_upto_region 21 with fail
      have hN14 : AllB [(w10.heap.size, (box9 pa a0 a1 a2 a3 na ma ka (.slice za ta.length zc))), (KY, (box9 pb b0 b1 b2 b3 nb mb kb (.slice ya tb.length yc))), (KX, (box9 pa a0 a1 a2 a3 na ma ka (.slice xa ta.length xc))), (KB, (box9 pb b0 b1 b2 b3 nb mb kb (.slice va tb.length vc))), (KA, (box9 pa a0 a1 a2 a3 na ma ka (.slice ua ta.length uc)))] (w10.alloc (box9 pa a0 a1 a2 a3 na ma ka (.slice za ta.length zc))) := (HB13.out).new _
      have hU14 := HU13.out.below (grew w10 (box9 pa a0 a1 a2 a3 na ma ka (.slice za ta.length zc)))
      have hV14 := HV13.out.below (grew w10 (box9 pa a0 a1 a2 a3 na ma ka (.slice za ta.length zc)))
      have hX14 := HX13.out.below (grew w10 (box9 pa a0 a1 a2 a3 na ma ka (.slice za ta.length zc)))
      have hY14 := HY13.out.below (grew w10 (box9 pa a0 a1 a2 a3 na ma ka (.slice za ta.length zc)))
      have hZ14 := hz.below (grew w10 (box9 pa a0 a1 a2 a3 na ma ka (.slice za ta.length zc)))
      have b14' := grows b13' (grew w10 (box9 pa a0 a1 a2 a3 na ma ka (.slice za ta.length zc)))
      obtain ⟨KZ, hKZ⟩ : ∃ B, B = w10.heap.size := ⟨_, rfl⟩
      rw [← hKZ] at hN14 ⊢
      unfold box9 at hN14 b14' hU14 hV14 hX14 hY14 hZ14
      generalize w10.alloc _ = v14 at hN14 b14' hU14 hV14 hX14 hY14 hZ14 ⊢
      have HB14 := Lib.hid hN14
      have HU14 := Lib.hid hU14
      have HV14 := Lib.hid hV14
      have HX14 := Lib.hid hX14
      have HY14 := Lib.hid hY14
      have HZ14 := Lib.hid hZ14
      clear hN14 hKZ hU14 hV14 hX14 hY14 hZ14 b13' HB13
      obtain ⟨⟨c0, c1, c2, c3, c4, c5, c6, c7, c8⟩, _⟩ := cells9 (HB14.out.get 4 rfl)
      obtain ⟨⟨d0, d1, d2, d3, d4, d5, d6, d7, d8⟩, _⟩ := cells9 (HB14.out.get 3 rfl)
      go_wp2_with fail
      with_reducible refine (HSS.out _ _ _ HU14.out HV14.out).mono ?_
      rintro e w11 ⟨rfl, k11⟩
      clear c0 c1 c2 c3 c4 c5 c6 c7 c8 d0 d1 d2 d3 d4 d5 d6 d7 d8
      have HB15 := Lib.hid (HB14.out.more k11)
      have HU15 := Lib.hid (HU14.out.below k11)
      have HV15 := Lib.hid (HV14.out.below k11)
      have HX15 := Lib.hid (HX14.out.below k11)
      have HY15 := Lib.hid (HY14.out.below k11)
      have HZ15 := Lib.hid (HZ14.out.below k11)
      have b15' := grows b14' k11
      clear k11 b14' HB14
      go_upto_region 22 with fail
      have HBf := Lib.hid b15'
      have HTAq := Lib.hid (fun (q : Quiet.Behind w11) => b15'.trans (q.below.mono b15'.size))
      clear b15'
      obtain ⟨⟨c0, c1, c2, c3, c4, c5, c6, c7, c8⟩, _⟩ := cells9 (HB15.out.get 4 rfl)
      have lC := (Array.getElem?_eq_some_iff.1 (HB15.out.get 4 rfl)).1
      have C0 := Quiet.cell lC c0
      have C1 := Quiet.cell lC c1
      have C2 := Quiet.cell lC c2
      have C3 := Quiet.cell lC c3
      have C4 := Quiet.cell lC c4
      have C5 := Quiet.cell lC c5
      have C6 := Quiet.cell lC c6
      have C7 := Quiet.cell lC c7
      have C8 := Quiet.cell lC c8
      clear lC c0 c1 c2 c3 c4 c5 c6 c7 c8
      obtain ⟨⟨d0, d1, d2, d3, d4, d5, d6, d7, d8⟩, _⟩ := cells9 (HB15.out.get 3 rfl)
      have lD := (Array.getElem?_eq_some_iff.1 (HB15.out.get 3 rfl)).1
      have D0 := Quiet.cell lD d0
      have D1 := Quiet.cell lD d1
      have D2 := Quiet.cell lD d2
      have D3 := Quiet.cell lD d3
      have D4 := Quiet.cell lD d4
      have D5 := Quiet.cell lD d5
      have D6 := Quiet.cell lD d6
      have D7 := Quiet.cell lD d7
      have D8 := Quiet.cell lD d8
      clear lD d0 d1 d2 d3 d4 d5 d6 d7 d8
      obtain ⟨⟨e0, e1, e2, e3, e4, e5, e6, e7, e8⟩, _⟩ := cells9 (HB15.out.get 2 rfl)
      have lE := (Array.getElem?_eq_some_iff.1 (HB15.out.get 2 rfl)).1
      have E0 := Quiet.cell lE e0
      have E1 := Quiet.cell lE e1
      have E2 := Quiet.cell lE e2
      have E3 := Quiet.cell lE e3
      have E4 := Quiet.cell lE e4
      have E5 := Quiet.cell lE e5
      have E6 := Quiet.cell lE e6
      have E7 := Quiet.cell lE e7
      have E8 := Quiet.cell lE e8
      clear lE e0 e1 e2 e3 e4 e5 e6 e7 e8
      obtain ⟨⟨f0, f1, f2, f3, f4, f5, f6, f7, f8⟩, _⟩ := cells9 (HB15.out.get 1 rfl)
      have lF := (Array.getElem?_eq_some_iff.1 (HB15.out.get 1 rfl)).1
      have F0 := Quiet.cell lF f0
      have F1 := Quiet.cell lF f1
      have F2 := Quiet.cell lF f2
      have F3 := Quiet.cell lF f3
      have F4 := Quiet.cell lF f4
      have F5 := Quiet.cell lF f5
      have F6 := Quiet.cell lF f6
      have F7 := Quiet.cell lF f7
      have F8 := Quiet.cell lF f8
      clear lF f0 f1 f2 f3 f4 f5 f6 f7 f8
      obtain ⟨⟨g0, g1, g2, g3, g4, g5, g6, g7, g8⟩, _⟩ := cells9 (HB15.out.get 0 rfl)
      have lG := (Array.getElem?_eq_some_iff.1 (HB15.out.get 0 rfl)).1
      have G0 := Quiet.cell lG g0
      have G1 := Quiet.cell lG g1
      have G2 := Quiet.cell lG g2
      have G3 := Quiet.cell lG g3
      have G4 := Quiet.cell lG g4
      have G5 := Quiet.cell lG g5
      have G6 := Quiet.cell lG g6
      have G7 := Quiet.cell lG g7
      have G8 := Quiet.cell lG g8
      clear lG g0 g1 g2 g3 g4 g5 g6 g7 g8
      refine Quiet.region (by kernel_rfl) (by kernel_rfl) ?_
      repeat (go_big_quiet_step (first | (go_at_call 21; (with_reducible exact Quiet.calls (HSA.out _ _ _ (HX15.out.below (Quiet.Behind.below _)) (HU15.out.below (Quiet.Behind.below _))))) | (go_at_call 21; (with_reducible exact Quiet.calls (HSB.out _ _ _ (HY15.out.below (Quiet.Behind.below _)) (HV15.out.below (Quiet.Behind.below _))))) | (go_at_call 21; (with_reducible exact Quiet.calls (HSA.out _ _ _ (HZ15.out.below (Quiet.Behind.below _)) (HU15.out.below (Quiet.Behind.below _))))) | (go_at_call 22; (with_reducible exact Quiet.calls (HPA.out _ _ (HU15.out.below (Quiet.Behind.below _))))) | (go_at_call 22; (with_reducible exact Quiet.calls (HPB.out _ _ (HV15.out.below (Quiet.Behind.below _))))) | (go_at_call 24; (with_reducible exact Quiet.calls (HTA.out _ _ (HTAq.out _) (HU15.out.below (Quiet.Behind.below _))))) | (go_at_call 24; (with_reducible exact Quiet.calls (HTB.out _ _ (HTAq.out _) (HV15.out.below (Quiet.Behind.below _)))))))
      refine wpQuiet_nil ?_
      rintro _ ⟨pq, rfl⟩
      have hq := pq.below
      generalize pq.world = wq at hq ⊢
      clear C0 C1 C2 C3 C4 C5 C6 C7 C8 D0 D1 D2 D3 D4 D5 D6 D7 D8 E0 E1 E2 E3 E4 E5 E6 E7 E8 F0 F1 F2 F3 F4 F5 F6 F7 F8 G0 G1 G2 G3 G4 G5 G6 G7 G8
      go_wp2
      go_ret
      exact ⟨rfl, grows HBf.out hq⟩

theorem drop_size (a b : ByteArray) (r : List UInt8) (h : b.data.toList = a.data.toList ++ r) : b.data.toList.drop a.size = r := by
  rw [h, ← size_list, List.drop_left]
theorem beq_str {a b : ByteArray} : (a.toList == b.toList) = decide (a = b) := by
  rw [Bool.eq_iff_iff, beq_iff_eq, decide_eq_true_eq]
  exact ⟨list_eq_of_toList, fun h => by rw [h]⟩
theorem walk (lv : Value) (lb : List UInt8) (mv : Value) (mb : List UInt8) (ahead : ByteArray) (h1 : ahead.size ≤ 140737488351232) (behind : ByteArray) (h2 : behind.size ≤ 140737488351232) (w : World) (hR : Roots w) (hl : Bytes w lv lb) (hm : Bytes w mv mb) :
    Calls Tryz.prog 4 #[lv, mv, .string ahead, .string behind] w fun e w' => e = .returned (.bool true) ∧ Below w.heap.size w w' := by
  have cA := made_check lb
  have cB := made_check mb
  have fA := made_fair lb
  have fB := made_fair mb
  have MA := fun W (h : Below w.heap.size w W) => made_any lv lb W (hl.below h)
  have MB := fun W (h : Below w.heap.size w W) => made_any mv mb W (hm.below h)
  generalize madeJ lb = A at cA fA MA
  generalize madeJ mb = B at cB fB MB
  have zA := putJ_small fA cA
  have zB := putJ_small fB cB
  have zT : (textJ A).size ≤ 1300 := by
    unfold textJ
    rw [if_pos cA, size_str]
    exact textJ_small fA cA
  have CK : ∀ x, checkJ x = 0 → FairJ x → ∀ u W, TRow W u (terms x) → Calls Tryz.prog 19 #[valJ x u] W fun e w' => e = .returned (.int .i64 0) ∧ Below W.heap.size W w' := fun x hc hf u W h => by
    have := check_any x u W hf h
    rwa [hc] at this
  obtain ⟨S, hS⟩ : ∃ S, S = ahead ++ putJ A ++ putJ B ++ behind := ⟨_, rfl⟩
  have hSz : S.size = ahead.size + (putJ A).size + (putJ B).size + behind.size := by rw [hS, size_app, size_app, size_app]
  have hSl : S.data.toList = ahead.data.toList ++ ((putJ A).data.toList ++ ((putJ B).data.toList ++ behind.data.toList)) := by rw [hS]; simp
  have hg1 : getJ S ((ahead.size : Nat) : Int) = some (A, ((ahead.size + (putJ A).size : Nat) : Int)) := getJ_put cA fA (drop_size ahead S _ hSl)
  have hg2 : getJ S ((ahead.size + (putJ A).size : Nat) : Int) = some (B, ((ahead.size + (putJ A).size + (putJ B).size : Nat) : Int)) := getJ_put (r := behind.data.toList) cB fB (by
    rw [← List.drop_drop, drop_size ahead S _ hSl, ← size_list (putJ A), List.drop_left])
  have hwords := sp_words cA
  refine walkL lv mv ahead behind S (putJ A) (putJ B) (textJ A) (textJ B) (decide (A = B)) (path A) (am (dem A) 0) (am (dem A) 1) (am (dem A) 2) (am (dem A) 3) (cou A) (pri A) (tik A) (terms A) (path B) (am (dem B) 0) (am (dem B) 1) (am (dem B) 2) (am (dem B) 3) (cou B) (pri B) (tik B) (terms B) w ((ahead.size + (putJ A).size : Nat) : Int) ((ahead.size + (putJ A).size + (putJ B).size : Nat) : Int)
    (Lib.hid (examples_any w hR)) (Lib.hid MA) (Lib.hid MB) (Lib.hid (CK A cA fA)) (Lib.hid (CK B cB fB)) (Lib.hid fun u W h => put_jb A u W fA h) (Lib.hid fun u W h => put_jb B u W fB h)
    (Lib.hid fun u W hb h => text_jb A u W fA h (hR.tab.below hb)) (Lib.hid fun u W hb h => text_jb B u W fB h (hR.tab.below hb))
    (Lib.hid fun u v W h1 h2 => same_any A B u v W h1 h2 fA.terms) (Lib.hid fun u v W h1 h2 => ?_) (Lib.hid fun u v W h1 h2 => ?_) (Lib.hid fun W h => ?_) (Lib.hid fun W h => ?_) (Lib.hid fun v W hb h => ?_) zT (by rw [hwords]; rfl)
    (fun w => run_string_add_sum w _ _ (by omega)) (fun w => run_string_add_sum w _ _ (by rw [size_app]; omega)) (fun w => by rw [hS]; exact run_string_add_sum w _ _ (by rw [size_app, size_app]; omega))
    ?_ ?_ (by rw [IntKind.wrap_i64]; omega)
  · have := same_any A A u v W h1 h2 fA.terms
    rwa [decide_eq_true rfl] at this
  · have := same_any B B u v W h1 h2 fB.terms
    rwa [decide_eq_true rfl] at this
  · have := get_jb S (by omega) (ahead.size : Int) W (hR.err.below h)
    rw [hg1] at this
    exact this
  · have := get_jb S (by omega) ((ahead.size + (putJ A).size : Nat) : Int) W (hR.err.below h)
    rw [hg2] at this
    exact this
  · rw [hwords] at h
    have := parse_jb (wordsJ A) v W h (fun x hx => by
      have h3 := textJ_small fA cA
      rw [wordsJ_eq] at h3 hx
      rw [show ([path A, textV (dem A), dec (numJ A 0), dec (numJ A 1), dec (numJ A 2), textS (terms A)].map fun t => t.data.toList) = [(path A).data.toList, (textV (dem A)).data.toList, (dec (numJ A 0)).data.toList, (dec (numJ A 1)).data.toList, (dec (numJ A 2)).data.toList, (textS (terms A)).data.toList] from rfl, glue6, size_list, size_list, size_list, size_list, size_list, size_list] at h3
      simp only [List.mem_cons, List.not_mem_nil, or_false] at hx
      rcases hx with rfl | rfl | rfl | rfl | rfl | rfl <;> omega) (hR.below hb)
    rw [parseJ_words cA fA] at this
    exact this
  · rw [beq_str]
    exact decide_eq_decide.2 ⟨fun h => putJ_inj cA cB fA fB h, fun h => by rw [h]⟩
  · rw [beq_str]
    exact decide_eq_decide.2 ⟨fun h => textJ_inj cA cB fA fB h, fun h => by rw [h]⟩
open Go.ChangeShapes Go.WideShapes Go.ChangeAt
set_option maxRecDepth 100000 in
theorem lifted (os : Os) (started : os.Started) (H : Type) (enc : TypeId × Value → H) :
    ReturnsInHanded {} Tryz.checked os 4 .any (fun w args => (Rows.specBackSpec.pre enc Tryz.prog Tryz.f4 Rows.specBackRow.domain false w args ∧ laidMetH Tryz.prog Rows.specBackRow.laid w) ∧ sizedMet enc Tryz.prog Tryz.f4 (OpenSpec.ofChange Rows.specBackSpec) false w args)
      (Rows.specBackSpec.post enc Tryz.prog Tryz.f4 false true false false) := by
  refine returnsInHanded_of_change_and (C := Tryz.checked) (X := fun w _ => laidMetH Tryz.prog Rows.specBackRow.laid w) (fun _ _ _ hh h => h.of_heap hh) Ends.own started (by kernel_rfl) Tryz.func4
    (ChangeSpec.witness_shaped (enc := enc) (C := Tryz.checked) (os := os) (X := fun w _ => laidMetH Tryz.prog Rows.specBackRow.laid w) false (World.laidAll Tryz.prog os Rows.specBackRow.laid) #[.slice none 0 0, .slice none 0 0, .string ⟨#[]⟩, .string ⟨#[]⟩] 8 (World.laidAll_os _ _ _)
      (World.shaped_of_ZipB (by kernel_rfl) (by kernel_rfl)) (by kernel_rfl) (by kernel_rfl) (by kernel_rfl)
      (by rw [MakeChecks.laidMetH_plain _ _ _ (by kernel_rfl)]; exact laidMet_laidAll _ (by kernel_rfl) (by kernel_rfl))) ?_
  intro W base args ds gs before hval0 hW _ hsz0 hL _
  have hval : ∀ (j : Nat) t v, Tryz.f4.params[j]? = some t → args[j]? = some v → Value.okWide Tryz.prog W .any base t v := hval0
  have hsz : (DataW.weightsEach Tryz.prog (Tryz.f4.params.toList ++ Rows.specBackSpec.plain.varTypes Tryz.prog) (ds ++ gs)).all (· ≤ reachBytes) = true := hsz0
  have hW' := hW
  obtain ⟨p, q, hA0, hV, rfl, hfz, hnd⟩ := hW
  have hA : DataW.TrodAll enc Tryz.prog W 0 (fun _ => true) true Tryz.f4.params.toList args.toList ds p := hA0
  rw [Tryz.params4] at hA hval hsz
  obtain ⟨v0, vs0, d0, ds0, p0, q0, hargs, rfl, rfl, h0, r0⟩ := trodAll_cons hA
  obtain ⟨v1, vs1, d1, ds1, p1, q1, rfl, rfl, rfl, h1, r1⟩ := trodAll_cons r0
  obtain ⟨v2, vs2, d2, ds2, p2, q2, rfl, rfl, rfl, h2, r2⟩ := trodAll_cons r1
  obtain ⟨v3, vs3, d3, ds3, p3, q3, rfl, rfl, rfl, h3, r3⟩ := trodAll_cons r2
  obtain ⟨rfl, rfl, rfl⟩ := trodAll_nil r3
  obtain rfl : args = #[v0, v1, v2, v3] := by cases args; simp_all
  obtain ⟨rfl, rfl⟩ := trodVars_none hV
  obtain ⟨a0, w0⟩ := Args.open_bytes Tryz.underlying56 Tryz.underlying5 (by kernel_rfl) (hval 0 56 v0 rfl rfl) h0
  obtain ⟨a1, w1⟩ := Args.open_bytes Tryz.underlying56 Tryz.underlying5 (by kernel_rfl) (hval 1 56 v1 rfl rfl) h1
  obtain ⟨a2, rfl, rfl, rfl, w2⟩ := Go.ChangeMaps.open_string Tryz.underlying9 (hval 2 9 v2 rfl rfl) h2
  obtain ⟨a3, rfl, rfl, rfl, w3⟩ := Go.ChangeMaps.open_string Tryz.underlying9 (hval 3 9 v3 rfl rfl) h3
  have b2 : a2.size ≤ 140737488351232 := by have := sized_string hsz (j := 2) rfl rfl; rw [Array.length_toList] at this; exact this
  have b3 : a3.size ≤ 140737488351232 := by have := sized_string hsz (j := 3) rfl rfl; rw [Array.length_toList] at this; exact this
  refine (walk v0 a0 v1 a1 a2 b2 a3 b3 W (Job.roots_met hL) w0 w1).mono fun e W' ⟨he, hb⟩ => ?_
  subst he
  exact ⟨_, rfl, Ends.law_end Ends.laidOut (by rw [Tryz.params4]; decide +kernel) rfl (by kernel_rfl) Tryz.underlying4 hW' rfl hb⟩

theorem row : Rows.SpecBackSaid :=
  OpenClaim.holds_of_wide 4 Tryz.f4 rfl rfl rfl rfl rfl rfl rfl ⟨rfl, rfl, rfl, rfl, rfl⟩ rfl rfl rfl rfl rfl (by kernel_rfl) Tryz.func4 (by kernel_rfl)
    (of_decide_eq_true (by kernel_rfl)) (by unfold Func.isWrapper; first | (rw [if_pos (by decide +kernel)]; kernel_rfl) | (rw [if_neg (by decide +kernel)]; exact ⟨rfl, rfl⟩))
    (fun os started H enc _ => lifted os started H enc)

/-- The statement: the tied card. -/
theorem proved : Rows.SpecBackCardSaid :=
  Claim7.holds_tied_plain_at .later [] [.data, .data, .data, .data, .sentinel, .sentinel, .sentinel, .pinned] true Rows.specBackCard.stood.harness true row (fun _ h => by cases h) (by kernel_rfl) (fun _ h => by cases h) specBack_row_tie rfl ⟨rfl, rfl⟩ (by kernel_rfl) rfl
    (fun f fn hf hfn => by
      obtain rfl : f = 4 := Option.some.inj ((show Tryz.prog.funcNamed "demesne/demesnelaw11.SpecBack" = some 4 by kernel_rfl).symm.trans hf) |>.symm
      obtain rfl : fn = Tryz.f4 := (Option.some.inj (Tryz.func4.symm.trans hfn)).symm
      exact ⟨by kernel_rfl, fun j t ht => by
        rw [Tryz.params4] at ht
        have hm : t ∈ [56, 56, 9, 9] := by simpa using Array.mem_of_getElem? ht
        have hall : ([56, 56, 9, 9].all fun u => !Tryz.prog.wantsStandIn u) = true := by kernel_rfl
        exact (show Tryz.prog.wantsStandIn t = false by simpa using List.all_eq_true.1 hall t hm)⟩)
    (by kernel_rfl)
end Go.Proofs.YtbilkeadhflibaaGreatDoor.specBack
