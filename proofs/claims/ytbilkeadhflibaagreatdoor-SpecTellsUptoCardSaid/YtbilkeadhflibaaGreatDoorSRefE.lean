/- What the document's own Same answers of any two selectors; of memory that was there nothing turns. -/
import Derived.Test.YtbilkeadhflibaaGreatDoorSRefR
namespace Go.Proofs.YtbilkeadhflibaaGreatDoor.Sel
open Go.RowKit Go.Proofs.YtbilkeadhflibaaGreatDoor.Texts Go.Proofs.YtbilkeadhflibaaGreatDoor.Word Go.Proofs.YtbilkeadhflibaaGreatDoor.Forms Go.Proofs.YtbilkeadhflibaaGreatDoor.Boxes Go.Proofs.YtbilkeadhflibaaGreatDoor.Label

set_option maxHeartbeats 8000000 in
set_option maxRecDepth 100000 in
theorem refSame_any (u v : Value) (xs ys : List Tm) (w : World) (hu : TRow w u xs) (hv : TRow w v ys) (hl : Sel.Fair xs) :
    Calls Tryz.prog 42 #[u, v] w fun e w' => e = .returned (.bool (decide (xs = ys))) ∧ Below w.heap.size w w' := by
  obtain ⟨a, cap, rfl, _, _⟩ := hu.slice
  obtain ⟨a', cap', rfl, _, _⟩ := hv.slice
  have hl1 := hl.1
  by_cases hn : xs.length = ys.length
  · have HU := Lib.hid hu
    have HV := Lib.hid hv
    have HN := Lib.hid hn
    have HL := Lib.hid hl
    have hne : ((xs.length : Int) != (ys.length : Int)) = false := by simp; omega
    have hne' : ((xs.length : Int) == (ys.length : Int)) = true := by simp; omega
    obtain ⟨D, hD⟩ : ∃ b, b = decide (xs = ys) := ⟨_, rfl⟩
    have HNo : Hid (∀ k x y, xs[k]? = some x → ys[k]? = some y → x ≠ y → D = false) := Lib.hid fun k x y hx hy he => by rw [hD]; exact decide_eq_false (at_same hx hy he)
    have HYes : Hid (xs.take xs.length = ys.take xs.length → D = true) := Lib.hid fun h => by rw [hD]; rw [List.take_length, hn, List.take_length] at h; exact decide_eq_true h
    rw [← hD]
    clear hu hv hn hl hD
    go_enter Tryz.func42, Tryz.ntmps42
    go_wp2_with fail
    go_loopw [5] (fun i wr => ∃ k : Nat, k ≤ xs.length ∧ i = .int .i64 k ∧ xs.take k = ys.take k ∧ Below w.heap.size w wr) (fun i _ => xs.length - (intOf i).toNat)
    case atStart => exact ⟨0, Nat.zero_le _, rfl, rfl, Below.refl _ _⟩
    case round =>
      obtain ⟨wa, hwa⟩ : ∃ x, x = wr := ⟨_, rfl⟩
      subst hwa
      obtain ⟨k, hk, rfl, hf, hb⟩ := hrel
      have HF := Lib.hid hf
      clear hf
      by_cases hlt : k < xs.length
      · have hltz : (k : Int) < (xs.length : Int) := by omega
        have hltz' : (k : Int) < (ys.length : Int) := by have := HN.out; omega
        have hlt' : k < ys.length := by have := HN.out; omega
        have hk0 : (0 : Int) ≤ (k : Int) := by omega
        obtain ⟨g, o, rfl, hg, hcell⟩ := (HU.out.below hb).cells hlt
        obtain ⟨g', o', rfl, hg', hcell'⟩ := (HV.out.below hb).cells hlt'
        obtain ⟨x, hx⟩ : ∃ x, xs[k]? = some x := ⟨_, List.getElem?_eq_getElem hlt⟩
        obtain ⟨y, hy⟩ : ∃ y, ys[k]? = some y := ⟨_, List.getElem?_eq_getElem hlt'⟩
        obtain ⟨c0, c1, s, c2, hs⟩ := hcell k x hx
        obtain ⟨sa, sc, rfl, _, _⟩ := hs.slice
        obtain ⟨d0, d1, s', d2, hs'⟩ := hcell' k y hy
        obtain ⟨sa', sc', rfl, _, _⟩ := hs'.slice
        have HX := Lib.hid hx
        have HY := Lib.hid hy
        have hvl := (HL.out.2 x (List.mem_of_getElem? hx)).2.1
        obtain ⟨xk, xn, xv⟩ := x
        obtain ⟨yk, yn, yv⟩ := y
        simp only at c0 c1 c2 d0 d1 d2 hs hs' hvl
        have q0 := Quiet.cell (a := ⟨g, o + k * 3, none⟩) hg c0
        have q1 := Quiet.cell (a := ⟨g, o + k * 3 + 1, none⟩) hg c1
        have q2 := Quiet.cell (a := ⟨g, o + k * 3 + 2, none⟩) hg c2
        have p0 := Quiet.cell (a := ⟨g', o' + k * 3, none⟩) hg' d0
        have p1 := Quiet.cell (a := ⟨g', o' + k * 3 + 1, none⟩) hg' d1
        have p2 := Quiet.cell (a := ⟨g', o' + k * 3 + 2, none⟩) hg' d2
        have HCa : Hid (∀ W, Below wa.heap.size wa W → W.cell? ⟨g, o + k * 3 + 2, none⟩ = some (.slice sa xv.length sc) ∧ W.cell? ⟨g', o' + k * 3 + 2, none⟩ = some (.slice sa' yv.length sc')) := Lib.hid fun W h => ⟨(h.cell (p := ⟨g, o + k * 3 + 2, none⟩) hg).trans c2, (h.cell (p := ⟨g', o' + k * 3 + 2, none⟩) hg').trans d2⟩
        have HSx := Lib.hid hs
        have HSy := Lib.hid hs'
        clear hx hy hs hs' hcell hcell' c0 c1 c2 d0 d1 d2
        obtain ⟨r1, hr1⟩ : ∃ r, (xk.toList == yk.toList) = r := ⟨_, rfl⟩
        have HR1 : Hid (decide (xk = yk) = r1) := Lib.hid (by rw [← beq_str]; exact hr1)
        cases r1 with
        | false =>
          have HE : Hid (D = false) := Lib.hid (HNo.out k _ _ HX.out HY.out (fun e => of_decide_eq_false HR1.out (by injection e)))
          go_wp2_with fail
          refine Quiet.region (by kernel_rfl) (by kernel_rfl) ?_
          repeat (go_big_quiet_step (fail))
          refine wpQuiet_nil ?_
          rintro _ ⟨pq, rfl⟩
          have hq := grows hb pq.below
          generalize pq.world = wq at hq ⊢
          go_wp2
          go_ret
          exact ⟨by rw [HE.out]; rfl, hq⟩
        | true =>
          by_cases hxy : xn = yn
          · subst hxy
            have hb1 : (xn != xn) = false := by simp
            have hb2 : (xn == xn) = true := by simp
            by_cases hvl2 : xv.length = yv.length
            · have hv1 : ((xv.length : Int) != (yv.length : Int)) = false := by simp; omega
              have hv2 : ((xv.length : Int) == (yv.length : Int)) = true := by simp; omega
              have HVL := Lib.hid hvl2
              clear hvl2
              go_wp2_with fail
              refine Quiet.region (by kernel_rfl) (by kernel_rfl) ?_
              repeat (go_big_quiet_step (fail))
              refine wpQuiet_nil ?_
              rintro _ ⟨pq, rfl⟩
              have hqa := pq.below
              generalize pq.world = wq at hqa ⊢
              have hq := grows hb hqa
              go_wp2_with fail
              clear q0 q1 q2 p0 p1 p2
              go_loopw [6] (fun i wr => ∃ j : Nat, j ≤ xv.length ∧ i = .int .i64 j ∧ xv.take j = yv.take j ∧ Below wa.heap.size wa wr) (fun i _ => xv.length - (intOf i).toNat)
              case atStart => exact ⟨0, Nat.zero_le _, rfl, rfl, hqa⟩
              case round =>
                obtain ⟨j, hj, rfl, hff, hbq⟩ := hrel
                have HFF := Lib.hid hff
                clear hff
                have hgr : g < wr.heap.size := Nat.lt_of_lt_of_le hg hbq.size
                have hgr' : g' < wr.heap.size := Nat.lt_of_lt_of_le hg' hbq.size
                have c2 := (HCa.out wr hbq).1
                have d2 := (HCa.out wr hbq).2
                by_cases hjl : j < xv.length
                · have hjlz : (j : Int) < (xv.length : Int) := by omega
                  have hjl' : j < yv.length := by have := HVL.out; omega
                  have hjlz' : (j : Int) < (yv.length : Int) := by omega
                  have hj0 : (0 : Int) ≤ (j : Int) := by omega
                  obtain ⟨g2, o2, rfl, hg2, hcell2⟩ := (HSx.out.below hbq).cells hjl
                  obtain ⟨g3, o3, rfl, hg3, hcell3⟩ := (HSy.out.below hbq).cells hjl'
                  obtain ⟨x, hx⟩ : ∃ x, xv[j]? = some x := ⟨_, List.getElem?_eq_getElem hjl⟩
                  obtain ⟨y, hy⟩ : ∃ x, yv[j]? = some x := ⟨_, List.getElem?_eq_getElem hjl'⟩
                  have q2 := Quiet.cell (a := ⟨g, o + k * 3 + 2, none⟩) hgr c2
                  have p2 := Quiet.cell (a := ⟨g', o' + k * 3 + 2, none⟩) hgr' d2
                  have q3 := Quiet.cell (a := ⟨g2, o2 + j, none⟩) hg2 (hcell2 j x hx)
                  have p3 := Quiet.cell (a := ⟨g3, o3 + j, none⟩) hg3 (hcell3 j y hy)
                  have HXX := Lib.hid hx
                  have HYY := Lib.hid hy
                  clear hx hy hcell2 hcell3
                  obtain ⟨r2, hr2⟩ : ∃ r, (x.toList == y.toList) = r := ⟨_, rfl⟩
                  have HR2 : Hid (decide (x = y) = r2) := Lib.hid (by rw [← beq_str]; exact hr2)
                  cases r2 with
                  | true =>
                    go_wp2_with fail
                    refine Quiet.region (by kernel_rfl) (by kernel_rfl) ?_
                    repeat (go_big_quiet_step (fail))
                    refine wpQuiet_nil ?_
                    rintro _ ⟨pq, rfl⟩
                    have hq2 := grows hbq pq.below
                    generalize pq.world = wz at hq2 ⊢
                    go_wp2
                    go_roundw
                    case rel => exact ⟨j + 1, by omega, by go_num, take_same HXX.out HYY.out HFF.out (of_decide_eq_true HR2.out), hq2⟩
                    case measure => simp [intOf]; omega
                  | false =>
                    have HE : Hid (D = false) := Lib.hid (HNo.out k _ _ HX.out HY.out (fun e => at_same HXX.out HYY.out (of_decide_eq_false HR2.out) (by injection e with _ e; injection e)))
                    go_wp2_with fail
                    refine Quiet.region (by kernel_rfl) (by kernel_rfl) ?_
                    repeat (go_big_quiet_step (fail))
                    refine wpQuiet_nil ?_
                    rintro _ ⟨pq, rfl⟩
                    have hq2 := grows hbq pq.below
                    generalize pq.world = wz at hq2 ⊢
                    go_wp2
                    go_ret
                    exact ⟨by rw [HE.out]; rfl, grows hb hq2⟩
                · obtain rfl : j = xv.length := by omega
                  have HE : Hid (xv = yv) := Lib.hid (by have h1 := HFF.out; have h2 := HVL.out; rw [List.take_length, h2, List.take_length] at h1; exact h1)
                  have HK : Hid (decide (xk = yk) = true) := HR1
                  go_wp2
                  go_roundw
                  case rel => exact ⟨k + 1, by omega, by go_num, take_same HX.out HY.out HF.out (by rw [HE.out, of_decide_eq_true HK.out]), grows hb hbq⟩
                  case measure => simp [intOf]; omega
            · have hv1 : ((xv.length : Int) != (yv.length : Int)) = true := by simp; omega
              have hv2 : ((xv.length : Int) == (yv.length : Int)) = false := by simp; omega
              have HE : Hid (D = false) := Lib.hid (HNo.out k _ _ HX.out HY.out (fun e => hvl2 (by injection e with _ e; injection e with _ e; rw [e])))
              clear hvl2
              go_wp2_with fail
              refine Quiet.region (by kernel_rfl) (by kernel_rfl) ?_
              repeat (go_big_quiet_step (fail))
              refine wpQuiet_nil ?_
              rintro _ ⟨pq, rfl⟩
              have hq := grows hb pq.below
              generalize pq.world = wq at hq ⊢
              go_wp2
              go_ret
              exact ⟨by rw [HE.out]; rfl, hq⟩
          · have HE : Hid (D = false) := Lib.hid (HNo.out k _ _ HX.out HY.out (fun e => hxy (by injection e with _ e; injection e)))
            cases xn with
            | true =>
              obtain rfl : yn = false := by cases yn; rfl; exact absurd rfl hxy
              clear hxy
              go_wp2_with fail
              refine Quiet.region (by kernel_rfl) (by kernel_rfl) ?_
              repeat (go_big_quiet_step (fail))
              refine wpQuiet_nil ?_
              rintro _ ⟨pq, rfl⟩
              have hq := grows hb pq.below
              generalize pq.world = wq at hq ⊢
              go_wp2
              go_ret
              exact ⟨by rw [HE.out]; rfl, hq⟩
            | false =>
              obtain rfl : yn = true := by cases yn; exact absurd rfl hxy; rfl
              clear hxy
              go_wp2_with fail
              refine Quiet.region (by kernel_rfl) (by kernel_rfl) ?_
              repeat (go_big_quiet_step (fail))
              refine wpQuiet_nil ?_
              rintro _ ⟨pq, rfl⟩
              have hq := grows hb pq.below
              generalize pq.world = wq at hq ⊢
              go_wp2
              go_ret
              exact ⟨by rw [HE.out]; rfl, hq⟩
      · obtain rfl : k = xs.length := by omega
        have HE : Hid (D = true) := Lib.hid (HYes.out HF.out)
        go_wp2
        go_ret
        exact ⟨by rw [HE.out]; rfl, hb⟩
  · have hne : ((xs.length : Int) != (ys.length : Int)) = true := by simp; omega
    have hne' : ((xs.length : Int) == (ys.length : Int)) = false := by simp; omega
    have HE : Hid (decide (xs = ys) = false) := Lib.hid (decide_eq_false (fun e => hn (by rw [e])))
    clear hn
    go_enter Tryz.func42, Tryz.ntmps42
    go_wp2
    go_ret
    exact ⟨by rw [HE.out]; rfl, Below.refl _ _⟩
end Go.Proofs.YtbilkeadhflibaaGreatDoor.Sel
