/- What the document's own Right answers of any selector; of memory that was there nothing turns. -/
import Derived.Test.YtbilkeadhflibaaGreatDoorSRef5
namespace Go.Proofs.YtbilkeadhflibaaGreatDoor.Sel
open Go.RowKit Go.Proofs.YtbilkeadhflibaaGreatDoor.Texts Go.Proofs.YtbilkeadhflibaaGreatDoor.Word Go.Proofs.YtbilkeadhflibaaGreatDoor.Forms Go.Proofs.YtbilkeadhflibaaGreatDoor.Boxes Go.Proofs.YtbilkeadhflibaaGreatDoor.Label

set_option maxHeartbeats 8000000 in
set_option maxRecDepth 100000 in
theorem refRightS_any (v : Value) (ls : List Tm) (w : World) (hv : TRow w v ls) (hl : Sel.Fair ls) :
    Calls Tryz.prog 46 #[v] w fun e w' => e = .returned (.bool (rightS ls)) ∧ Below w.heap.size w w' := by
  obtain ⟨a, cap, rfl, hcap, hm⟩ := hv.slice
  have hl1 := hl.1
  have HL := Lib.hid hl
  have HV := Lib.hid hv
  clear hv hl
  by_cases h4 : ls.length ≤ 4
  · have h4z : ¬ (4 : Int) < (ls.length : Int) := by omega
    have HEnd : Hid (ls.all rightT = true → rightS ls = true) := Lib.hid fun h => by unfold rightS; rw [decide_eq_true h4, h]; rfl
    have HNo : Hid (∀ k t, ls[k]? = some t → rightT t = false → rightS ls = false) := Lib.hid fun k t ht h => by
      unfold rightS
      rw [show ls.all rightT = false from List.all_eq_false.2 ⟨t, List.mem_of_getElem? ht, by rw [h]; simp⟩]
      simp
    obtain ⟨RS, hRS⟩ : ∃ b, b = rightS ls := ⟨_, rfl⟩
    rw [← hRS] at HEnd HNo ⊢
    clear hRS h4
    go_enter Tryz.func46, Tryz.ntmps46
    go_wp2_with fail
    go_loopw [3] (fun i wr => ∃ k : Nat, k ≤ ls.length ∧ i = .int .i64 k ∧ (ls.take k).all rightT = true ∧ Below w.heap.size w wr) (fun i _ => ls.length - (intOf i).toNat)
    case atStart => exact ⟨0, Nat.zero_le _, rfl, rfl, Below.refl _ _⟩
    case round =>
      obtain ⟨wa, hwa⟩ : ∃ x, x = wr := ⟨_, rfl⟩
      subst hwa
      obtain ⟨k, hk, rfl, hf, hb⟩ := hrel
      have HF := Lib.hid hf
      clear hf
      by_cases hlt : k < ls.length
      · have hltz : (k : Int) < (ls.length : Int) := by omega
        obtain ⟨g, o, rfl, hg, hcell⟩ := (HV.out.below hb).cells hlt
        obtain ⟨t, ht⟩ : ∃ t, ls[k]? = some t := ⟨_, List.getElem?_eq_getElem hlt⟩
        obtain ⟨c0, c1, s, c2, hs⟩ := hcell k t ht
        obtain ⟨sa, sc, rfl, _, _⟩ := hs.slice
        have HS := Lib.hid hs
        have HT := Lib.hid ht
        have hfr := HL.out.2 t (List.mem_of_getElem? ht)
        obtain ⟨tk, tn, tv⟩ := t
        simp only at hfr c0 c1 c2
        obtain ⟨r, hr⟩ : ∃ r, r = right tk.data.toList := ⟨_, rfl⟩
        have HR := Lib.hid hr
        have HW : Hid (∀ W, Calls Tryz.prog 90 #[.string tk] W fun e w' => e = .returned (.bool r) ∧ Below W.heap.size W w') := Lib.hid fun W => by rw [hr]; exact refRight_any tk (by omega) W
        have HWs : Hid (∀ x ∈ tv, ∀ W, Calls Tryz.prog 90 #[.string x] W fun e w' => e = .returned (.bool (right x.data.toList)) ∧ Below W.heap.size W w') := Lib.hid fun x hx W => refRight_any x (by have := hfr.2.2 x hx; omega) W
        have hvl := hfr.2.1
        clear ht hs hcell c1 hr hfr
        cases r with
        | false =>
          have HE : Hid (RS = false) := Lib.hid (HNo.out k _ HT.out (by rw [rightT_eq]; simp [← HR.out]))
          go_wp2_with fail
          with_reducible refine (HW.out _).mono ?_
          rintro e w1 ⟨rfl, hb1⟩
          go_wp2
          go_ret
          exact ⟨by rw [HE.out]; rfl, grows hb hb1⟩
        | true =>
          by_cases hv4 : tv.length ≤ 4
          · have hv4z : ¬ (4 : Int) < (tv.length : Int) := by omega
            have hv4n : ¬ 4 < tv.length := by omega
            have hv4d : decide (4 < tv.length) = false := decide_eq_false hv4n
            have hv4e : decide ((4 : Int) < (tv.length : Int)) = false := decide_eq_false hv4z
            have HTT : Hid (fitV tv = true → rightT (tk, tn, tv) = true) := Lib.hid fun h => by rw [rightT_eq]; simp only; rw [← HR.out, decide_eq_true hv4, h]; rfl
            have HTF : Hid (fitV tv = false → RS = false) := Lib.hid fun h => HNo.out k _ HT.out (by rw [rightT_eq]; simp only; rw [h]; simp)
            clear hv4
            go_wp2_with fail
            with_reducible refine (HW.out _).mono ?_
            rintro e w1 ⟨rfl, hb1⟩
            have hbx := grows hb hb1
            have HS1 := Lib.hid (HS.out.below hb1)
            clear c0 c2
            go_wp2_with fail
            go_loopw [5] (fun i wr => ∃ j : Nat, j ≤ tv.length ∧ i = .int .i64 j ∧ fitV (tv.take j) = true ∧ Below w1.heap.size w1 wr) (fun i _ => tv.length - (intOf i).toNat)
            case atStart => exact ⟨0, Nat.zero_le _, rfl, rfl, Below.refl _ _⟩
            case round =>
              obtain ⟨j, hj, rfl, hff, hbq⟩ := hrel
              have HFF := Lib.hid hff
              clear hff
              by_cases hjl : j < tv.length
              · have hjlz : (j : Int) < (tv.length : Int) := by omega
                have hj0 : (0 : Int) ≤ (j : Int) := by omega
                obtain ⟨g2, o2, rfl, hg2, hcell2⟩ := (HS1.out.below hbq).cells hjl
                obtain ⟨x, hx⟩ : ∃ x, tv[j]? = some x := ⟨_, List.getElem?_eq_getElem hjl⟩
                have q1 := Quiet.cell (a := ⟨g2, o2 + j, none⟩) hg2 (hcell2 j x hx)
                have HC2 := Lib.hid hcell2
                have HXX := Lib.hid hx
                obtain ⟨r2, hr2⟩ : ∃ r, r = right x.data.toList := ⟨_, rfl⟩
                have HR2 := Lib.hid hr2
                have HWx : Hid (∀ W, Calls Tryz.prog 90 #[.string x] W fun e w' => e = .returned (.bool r2) ∧ Below W.heap.size W w') := Lib.hid fun W => by rw [hr2]; exact HWs.out x (List.mem_of_getElem? hx) W
                clear hx hr2 hcell2
                by_cases hjz : j = 0
                · have HN : Hid (fitV (tv.take (j + 1)) = r2) := Lib.hid (by subst hjz; rw [fitV_zero HXX.out]; exact HR2.out.symm)
                  have hz0 : decide ((0 : Int) < (j : Int)) = false := decide_eq_false (by omega)
                  have hz1 : ¬ (0 : Int) < (j : Int) := by omega
                  have hz2 : ¬ 0 < j := by omega
                  have hz3 : decide (0 < j) = false := decide_eq_false hz2
                  have HJZ := Lib.hid hjz
                  clear hjz
                  cases r2 with
                  | true =>
                    go_wp2_with fail
                    refine Quiet.region (by kernel_rfl) (by kernel_rfl) ?_
                    repeat (go_big_quiet_step (first | (go_at_call 90; (with_reducible exact Quiet.calls (HWx.out _)))))
                    refine wpQuiet_nil ?_
                    rintro _ ⟨pq, rfl⟩
                    have hq := grows hbq pq.below
                    generalize pq.world = wq at hq ⊢
                    go_wp2
                    go_roundw
                    case rel => exact ⟨j + 1, by omega, by go_num, HN.out, hq⟩
                    case measure => simp [intOf]; omega
                  | false =>
                    go_wp2_with fail
                    refine Quiet.region (by kernel_rfl) (by kernel_rfl) ?_
                    repeat (go_big_quiet_step (first | (go_at_call 90; (with_reducible exact Quiet.calls (HWx.out _)))))
                    refine wpQuiet_nil ?_
                    rintro _ ⟨pq, rfl⟩
                    have hq := grows hbq pq.below
                    generalize pq.world = wq at hq ⊢
                    go_wp2
                    go_ret
                    exact ⟨by rw [HTF.out (fitV_no HN.out)]; rfl, grows hbx hq⟩
                · obtain ⟨i, rfl⟩ : ∃ i, j = i + 1 := ⟨j - 1, by omega⟩
                  obtain ⟨y, hy⟩ : ∃ y, tv[i]? = some y := ⟨_, List.getElem?_eq_getElem (by omega)⟩
                  have q2 := Quiet.cell (a := ⟨g2, o2 + i, none⟩) hg2 (HC2.out i y hy)
                  obtain ⟨b, hbl⟩ : ∃ b, lessB y x = b := ⟨_, rfl⟩
                  have HN : Hid (fitV (tv.take (i + 1 + 1)) = (r2 && b)) := Lib.hid (by rw [fitV_more HXX.out hy HFF.out, ← HR2.out, hbl])
                  have hwr1 : IntKind.i64.wrap (i : Int) = (i : Int) := by rw [IntKind.wrap_i64]; omega
                  have hwr2 : IntKind.i64.wrap ((i : Int) + 1 - 1) = (i : Int) := by rw [Int.add_sub_cancel]; exact hwr1
                  have hz1 : (0 : Int) < (i : Int) + 1 := by omega
                  have hi0 : (0 : Int) ≤ (i : Int) := by omega
                  have hil : (i : Int) < (tv.length : Int) := by omega
                  have hik : (i : Int) + 1 < (tv.length : Int) := by omega
                  clear hy hjz
                  cases r2 with
                  | false =>
                    go_wp2_with fail
                    refine Quiet.region (by kernel_rfl) (by kernel_rfl) ?_
                    repeat (go_big_quiet_step (first | (go_at_call 90; (with_reducible exact Quiet.calls (HWx.out _)))))
                    refine wpQuiet_nil ?_
                    rintro _ ⟨pq, rfl⟩
                    have hq := grows hbq pq.below
                    generalize pq.world = wq at hq ⊢
                    go_wp2
                    go_ret
                    exact ⟨by rw [HTF.out (fitV_no HN.out)]; rfl, grows hbx hq⟩
                  | true =>
                    obtain ⟨c, hcl⟩ : ∃ c, (x.toList == y.toList) = c := ⟨_, rfl⟩
                    obtain ⟨d, hdl⟩ : ∃ d, Op.bytesLess x.toList y.toList = d := ⟨_, rfl⟩
                    have hor : Hid ((d || c) = !b) := Lib.hid (by
                      cases b with
                      | true =>
                        have h1 := lessB_asymm hbl
                        unfold lessB at h1
                        rw [h1] at hdl
                        have h2 := lessB_ne hbl
                        rw [Bool.beq_comm, h2] at hcl
                        rw [← hcl, ← hdl]; rfl
                      | false =>
                        cases c with
                        | true => simp
                        | false =>
                          have h1 := lessB_total (x := x) (y := y) hbl hcl
                          unfold lessB at h1
                          rw [h1] at hdl
                          rw [← hdl]; rfl)
                    clear hbl
                    cases b with
                    | true =>
                      have h2 := hor.out
                      obtain ⟨rfl, rfl⟩ : d = false ∧ c = false := by revert h2; cases c <;> cases d <;> simp
                      clear h2
                      go_wp2_with fail
                      refine Quiet.region (by kernel_rfl) (by kernel_rfl) ?_
                      repeat (go_big_quiet_step (first | (go_at_call 90; (with_reducible exact Quiet.calls (HWx.out _)))))
                      refine wpQuiet_nil ?_
                      rintro _ ⟨pq, rfl⟩
                      have hq := grows hbq pq.below
                      generalize pq.world = wq at hq ⊢
                      go_wp2
                      go_roundw
                      case rel => exact ⟨i + 1 + 1, by omega, by go_num, HN.out, hq⟩
                      case measure => simp [intOf]; omega
                    | false =>
                      have HE : Hid (RS = false) := Lib.hid (HTF.out (fitV_no (k := i + 1 + 1) (by rw [HN.out]; rfl)))
                      have h2 := hor.out
                      have H2 : Hid (c = true ∨ d = true) := Lib.hid (by revert h2; cases c <;> cases d <;> simp)
                      clear h2
                      cases d with
                      | true =>
                        cases c with
                        | true =>
                          go_wp2_with fail
                          refine Quiet.region (by kernel_rfl) (by kernel_rfl) ?_
                          repeat (go_big_quiet_step (first | (go_at_call 90; (with_reducible exact Quiet.calls (HWx.out _)))))
                          refine wpQuiet_nil ?_
                          rintro _ ⟨pq, rfl⟩
                          have hq := grows hbq pq.below
                          generalize pq.world = wq at hq ⊢
                          go_wp2
                          go_ret
                          exact ⟨by rw [HE.out]; rfl, grows hbx hq⟩
                        | false =>
                          go_wp2_with fail
                          refine Quiet.region (by kernel_rfl) (by kernel_rfl) ?_
                          repeat (go_big_quiet_step (first | (go_at_call 90; (with_reducible exact Quiet.calls (HWx.out _)))))
                          refine wpQuiet_nil ?_
                          rintro _ ⟨pq, rfl⟩
                          have hq := grows hbq pq.below
                          generalize pq.world = wq at hq ⊢
                          go_wp2
                          go_ret
                          exact ⟨by rw [HE.out]; rfl, grows hbx hq⟩
                      | false =>
                        obtain rfl : c = true := by rcases H2.out with h | h; exact h; cases h
                        go_wp2_with fail
                        refine Quiet.region (by kernel_rfl) (by kernel_rfl) ?_
                        repeat (go_big_quiet_step (first | (go_at_call 90; (with_reducible exact Quiet.calls (HWx.out _)))))
                        refine wpQuiet_nil ?_
                        rintro _ ⟨pq, rfl⟩
                        have hq := grows hbq pq.below
                        generalize pq.world = wq at hq ⊢
                        go_wp2
                        go_ret
                        exact ⟨by rw [HE.out]; rfl, grows hbx hq⟩
              · have hjlz : ¬ ((j : Int) < (tv.length : Int)) := by omega
                have HA : Hid (rightT (tk, tn, tv) = true) := Lib.hid (HTT.out (by
                  have := HFF.out
                  rwa [List.take_of_length_le (by omega)] at this))
                go_wp2
                go_roundw
                case rel => exact ⟨k + 1, by omega, by go_num, by rw [all_take HT.out HF.out]; exact HA.out, grows hbx hbq⟩
                case measure => simp [intOf]; omega
          · have hv4z : (4 : Int) < (tv.length : Int) := by omega
            have hv4n : 4 < tv.length := by omega
            have hv4d : decide (4 < tv.length) = true := decide_eq_true hv4n
            have hv4e : decide ((4 : Int) < (tv.length : Int)) = true := decide_eq_true hv4z
            have HE : Hid (RS = false) := Lib.hid (HNo.out k _ HT.out (by rw [rightT_eq]; simp only; rw [decide_eq_false hv4]; simp))
            clear hv4
            go_wp2_with fail
            with_reducible refine (HW.out _).mono ?_
            rintro e w1 ⟨rfl, hb1⟩
            go_wp2
            go_ret
            exact ⟨by rw [HE.out]; rfl, grows hb hb1⟩
      · have hltz : ¬ ((k : Int) < (ls.length : Int)) := by omega
        have HE : Hid (RS = true) := Lib.hid (HEnd.out (by
          have := HF.out
          rwa [List.take_of_length_le (by omega)] at this))
        go_wp2
        go_ret
        exact ⟨by rw [HE.out]; rfl, hb⟩
  · have h4z : (4 : Int) < (ls.length : Int) := by omega
    have HE : Hid (rightS ls = false) := Lib.hid (by unfold rightS; rw [decide_eq_false h4]; rfl)
    clear h4
    go_enter Tryz.func46, Tryz.ntmps46
    go_wp2
    go_ret
    exact ⟨by rw [HE.out]; rfl, Below.refl _ _⟩
end Go.Proofs.YtbilkeadhflibaaGreatDoor.Sel
