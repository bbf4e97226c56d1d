/- What the document's own Put answers of any job (chapter 11); of memory that was there nothing turns. -/
import Derived.Test.YtbilkeadhflibaaGreatDoorYSpecC
namespace Go.Proofs.YtbilkeadhflibaaGreatDoor.Job
open Go.RowKit Go.Proofs.YtbilkeadhflibaaGreatDoor.Wire Go.Proofs.YtbilkeadhflibaaGreatDoor.Vec Go.Proofs.YtbilkeadhflibaaGreatDoor.Sel

set_option maxHeartbeats 4000000 in
set_option maxRecDepth 100000 in
theorem refPutJ_any (x : Jb) (s : Value) (w : World) (hf : FairJ x) (hs : TRow w s (terms x)) :
    Calls Tryz.prog 23 #[valJ x s] w fun e w' => e = .returned (.string (putJ x)) ∧ Below w.heap.size w w' := by
  have HC := Lib.hid (fun W (h : Below w.heap.size w W) => refCheck_any x s W hf (hs.below h))
  obtain ⟨r, hr⟩ : ∃ r, r = checkJ x := ⟨_, rfl⟩
  rw [← hr] at HC
  by_cases h0 : r = 0
  · have hc : checkJ x = 0 := by rw [← hr]; exact h0
    have hB := (checkJ_ok.1 hc).2.1
    obtain ⟨n0, n1, n2⟩ := nums_of hB
    have HE := Lib.hid (putJ_yes hc)
    have HT := Lib.hid (fun W => refPutText_any (path x) (by have := hf.path; omega) W)
    have HV := Lib.hid (fun W => refPutV_any (am (dem x)) hf.dem W)
    have HS := Lib.hid (fun W (h : Below w.heap.size w W) => refPutS_any s (terms x) W (hs.below h) hf.terms)
    have HP0 := Lib.hid (fun W => refPut_any (numJ x 0) (by have := numJ_lt hB 0; omega) W)
    have HP1 := Lib.hid (fun W => refPut_any (numJ x 1) (by have := numJ_lt hB 1; omega) W)
    have HP2 := Lib.hid (fun W => refPut_any (numJ x 2) (by have := numJ_lt hB 2; omega) W)
    have hF : ∀ j, j ≤ 3 → (accJ x j).size ≤ 140737488356000 := fun j hj => by
      have h1 := accJ_size hf hB j hj
      have h2 := hf.path
      omega
    have hL : ∀ j, (str (putL (numJ x j))).size ≤ 10 := fun j => by
      rw [size_str]
      exact putL_le (by have := numJ_lt hB j; omega)
    have hZ := putS_small (terms x)
    have w0 : IntKind.u64.wrap (cou x) = (numJ x 0 : Int) := by rw [n0, IntKind.wrap_u64]; have := numJ_lt hB 0; omega
    have w1 : IntKind.u64.wrap (pri x) = (numJ x 1 : Int) := by rw [n1, IntKind.wrap_u64]; have := numJ_lt hB 1; omega
    have w2 : IntKind.u64.wrap (tik x) = (numJ x 2 : Int) := by rw [n2, IntKind.wrap_u64]; have := numJ_lt hB 2; omega
    have add0 : ∀ w, Sem.run Tryz.prog (Op.stringOp .add (str (putL (path x).size) ++ path x) (str (putV (am (dem x)) 4))) w = .ok (.string (accJ x 0)) w := fun w => run_string_add_sum w _ _ (by
      have h1 := hF 0 (by omega)
      change (str (putL (path x).size) ++ path x ++ str (putV (am (dem x)) 4)).size ≤ _ at h1
      rw [size_app] at h1
      omega)
    have add1 : ∀ w, Sem.run Tryz.prog (Op.stringOp .add (accJ x 0) (str (putL (numJ x 0)))) w = .ok (.string (accJ x 1)) w := fun w => run_string_add_sum w _ _ (by have := hF 0 (by omega); have := hL 0; omega)
    have add2 : ∀ w, Sem.run Tryz.prog (Op.stringOp .add (accJ x 1) (str (putL (numJ x 1)))) w = .ok (.string (accJ x 2)) w := fun w => run_string_add_sum w _ _ (by have := hF 1 (by omega); have := hL 1; omega)
    have add3 : ∀ w, Sem.run Tryz.prog (Op.stringOp .add (accJ x 2) (str (putL (numJ x 2)))) w = .ok (.string (accJ x 3)) w := fun w => run_string_add_sum w _ _ (by have := hF 2 (by omega); have := hL 2; omega)
    have add4 : ∀ w, Sem.run Tryz.prog (Op.stringOp .add (accJ x 3) (putS (terms x))) w = .ok (.string (putJ x)) w := fun w => by rw [HE.out]; exact run_string_add_sum w _ _ (by have := hF 3 (by omega); omega)
    rw [valJ_eq] at HC ⊢
    generalize putJ x = PJ at add4 ⊢
    generalize accJ x 0 = F0 at add0 add1
    generalize accJ x 1 = F1 at add1 add2
    generalize accJ x 2 = F2 at add2 add3
    generalize accJ x 3 = F3 at add3 add4
    generalize str (putL (path x).size) ++ path x = PT at HT add0
    generalize str (putV (am (dem x)) 4) = PV at HV add0
    generalize putS (terms x) = Z at HS add4
    generalize str (putL (numJ x 0)) = s0 at HP0 add1
    generalize str (putL (numJ x 1)) = s1 at HP1 add2
    generalize str (putL (numJ x 2)) = s2 at HP2 add3
    generalize numJ x 0 = N0 at HP0 w0
    generalize numJ x 1 = N1 at HP1 w1
    generalize numJ x 2 = N2 at HP2 w2
    obtain ⟨p, hp⟩ : ∃ p, p = path x := ⟨_, rfl⟩
    rw [← hp] at HC HT ⊢
    obtain ⟨A0, e0⟩ : ∃ a : Int, a = am (dem x) 0 := ⟨_, rfl⟩
    obtain ⟨A1, e1⟩ : ∃ a : Int, a = am (dem x) 1 := ⟨_, rfl⟩
    obtain ⟨A2, e2⟩ : ∃ a : Int, a = am (dem x) 2 := ⟨_, rfl⟩
    obtain ⟨A3, e3⟩ : ∃ a : Int, a = am (dem x) 3 := ⟨_, rfl⟩
    rw [← e0, ← e1, ← e2, ← e3] at HC HV ⊢
    generalize cou x = n at HC w0 ⊢
    generalize pri x = m at HC w1 ⊢
    generalize tik x = k at HC w2 ⊢
    clear hr hc hB n0 n1 n2 HE hp e0 e1 e2 e3 hs hf hF hL hZ
    subst h0
    unfold val9 at HC ⊢
    unfold vec at HV
    go_enter Tryz.func23, Tryz.ntmps23
    go_upto_region 1 with fail
    have hx := heap_alloc_new w (box9R p A0 A1 A2 A3 n m k s)
    have b0 := grew w (box9R p A0 A1 A2 A3 n m k s)
    obtain ⟨T, hTe⟩ : ∃ T, T = w.heap.size := ⟨_, rfl⟩
    rw [← hTe] at hx ⊢
    unfold box9R at hx b0
    generalize w.alloc _ = v0 at hx b0 ⊢
    have HX0 := Lib.hid hx
    clear hx hTe
    obtain ⟨⟨c0, c1, c2, c3, c4, c5, c6, c7, c8⟩, _⟩ := cells9R HX0.out
    go_wp2_with fail
    with_reducible refine (HC.out _ b0).mono ?_
    rintro e v1 ⟨rfl, k1⟩
    have hA := (k1.block _ (Array.getElem?_eq_some_iff.1 HX0.out).1).trans HX0.out
    have HB1 := Lib.hid (grows b0 k1)
    clear k1 b0 c0 c1 c2 c3 c4 c5 c6 c7 c8 HX0
    obtain ⟨⟨c0, c1, c2, c3, c4, c5, c6, c7, c8⟩, _⟩ := cells9R hA
    have lA := (Array.getElem?_eq_some_iff.1 hA).1
    have C0 := Quiet.cell lA c0
    have C1 := Quiet.cell lA c1
    have C2 := Quiet.cell lA c2
    have C3 := Quiet.cell lA c3
    have C4 := Quiet.cell lA c4
    have C5 := Quiet.cell lA c5
    have C6 := Quiet.cell lA c6
    have C7 := Quiet.cell lA c7
    have C8 := Quiet.cell lA c8
    clear hA lA c0 c1 c2 c3 c4 c5 c6 c7 c8
    go_upto_region 3 with fail
    refine Quiet.region (by kernel_rfl) (by kernel_rfl) ?_
    repeat (go_big_quiet_step (first | (go_at_call 53; (with_reducible exact Quiet.calls (HT.out _))) | (go_at_call 54; (with_reducible exact Quiet.calls (HV.out _))) | (go_at_call 55; first | (with_reducible exact Quiet.calls (HP0.out _)) | (with_reducible exact Quiet.calls (HP1.out _)) | (with_reducible exact Quiet.calls (HP2.out _))) | (go_at_call 56; (with_reducible exact Quiet.calls (HS.out _ (HB1.out.trans ((Quiet.Behind.below _).mono HB1.out.size)))))))
    refine wpQuiet_nil ?_
    rintro _ ⟨pq, rfl⟩
    have hq := pq.below
    generalize pq.world = v2 at hq ⊢
    clear C0 C1 C2 C3 C4 C5 C6 C7 C8
    go_wp2
    go_ret
    exact ⟨rfl, grows HB1.out hq⟩
  · have HE := Lib.hid (putJ_no (x := x) (by rw [← hr]; exact h0))
    have hne : (r != 0) = true := by simpa using h0
    rw [valJ_eq] at HC ⊢
    rw [HE.out]
    clear hr hs hf HE
    unfold val9 at HC ⊢
    go_enter Tryz.func23, Tryz.ntmps23
    go_wp2_with fail
    refine (HC.out _ (grew w _)).mono ?_
    rintro e w1 ⟨rfl, hb1⟩
    have hb' := grows (grew w _) hb1
    clear hb1
    go_wp2
    go_ret
    exact ⟨rfl, hb'⟩
end Go.Proofs.YtbilkeadhflibaaGreatDoor.Job
