/- QueuePlaces: each stands at its place; who is not there has none, and can't be taken: the walk, over what the calls say. -/
import Derived.Test.YtimaehaaidjokaaUIds
namespace Go.Proofs.Ytimaehaaidjokaa.Queue
open Go.RowKit

set_option maxHeartbeats 4000000 in
set_option maxRecDepth 100000 in
theorem queuePlaces_any (S : Says) (v : Value) (ls : List E) (i : Nat) (w : World) (hv : Row w v ls) (hi : Word i) :
    Calls Try.prog 7 #[v, .int .u64 (i : Int)] w fun e w' => e = .returned (.bool true) ∧ Below w.heap.size w w' := by
  have HV := Lib.hid hv
  have HS := Lib.hid S
  have HI := Lib.hid hi
  have HX := Lib.hid (examples_any S w)
  clear hv S hi
  go_enter Try.func7, Try.ntmps7
  go_wp2_with fail
  (with_reducible refine HX.out.mono ?_)
  rintro _ w1 ⟨rfl, k1⟩
  have HP := Lib.hid (pushed_rows HS.out v ls w1 (HV.out.below k1))
  go_wp2_with fail
  (with_reducible refine HP.out.mono ?_)
  rintro _ w2 ⟨⟨q0, rfl, hq⟩, k2⟩
  have hR := pushed_right right_nil ls
  obtain ⟨Q, hQ⟩ : ∃ Q, Q = pushedL [] ls := ⟨_, rfl⟩
  rw [← hQ] at hq hR
  have hW2 := k1.trans (k2.mono k1.size)
  have hfew := hR.few
  have HR := Lib.hid hR
  have HQ := Lib.hid hq
  obtain ⟨qa, qc, rfl, _, _⟩ := hq.slice
  clear hR hQ hq HP k1 k2 HX HV
  go_wp2
  go_loopw [7, 8] (fun m t wr => ∃ k : Nat, k ≤ Q.length ∧ t = .int .i64 k ∧ m = .int .i64 (metL Q i k) ∧ Below w2.heap.size w2 wr) (fun _ t _ => Q.length - (intOf t).toNat)
  case atStart => exact ⟨0, Nat.zero_le _, rfl, rfl, Below.refl _ _⟩
  case round =>
    obtain ⟨k, hk, rfl, rfl, hb⟩ := hrel
    by_cases hlt : k < Q.length
    · have hltz : (k : Int) < (Q.length : Int) := by omega
      have hk0 : (0 : Int) ≤ (k : Int) := by omega
      have HQr := HQ.out.below hb
      obtain ⟨g, o, rfl, hg, hc⟩ := HQr.cells hlt
      obtain ⟨x, hx⟩ : ∃ x, Q[k]? = some x := ⟨_, List.getElem?_eq_getElem hlt⟩
      obtain ⟨hf, x0, x1⟩ := hc k x hx
      have HP := Lib.hid (HS.out.place _ Q x.1 wr HQr hf.1)
      rw [HR.out.place hx] at HP
      have HM := Lib.hid (metL_step (i := i) hx)
      have HC := Lib.hid hc
      have HX := Lib.hid hx
      clear HQr hx hc hf x1
      obtain ⟨j, p⟩ := x
      simp only at HP HM x0
      have hne : ((k : Int) != (k : Int)) = false := by simp
      go_wp2_with fail
      (with_reducible refine HP.out.mono ?_)
      rintro _ wq ⟨rfl, hbq⟩
      have hb2 := hb.trans (hbq.mono hb.size)
      obtain ⟨_, y0, _⟩ := (HC.out.below hg hbq) k (j, p) HX.out
      simp only at y0
      obtain ⟨m, hm⟩ : ∃ m, metL Q i k = m := ⟨_, rfl⟩
      rw [hm] at HM ⊢
      clear HP x0 hm
      by_cases hji : j = i
      · have hjb : ((j : Int) == (i : Int)) = true := by rw [hji]; simp
        have HM2 : Hid (metL Q i (k + 1) = (k : Int)) := Lib.hid (by rw [HM.out, if_pos hji])
        clear HM hji
        go_wp2
        go_roundw
        case rel => exact ⟨k + 1, by omega, by go_num, by rw [HM2.out], hb2⟩
        case measure => simp [intOf]; omega
      · have hjb : ((j : Int) == (i : Int)) = false := by rw [beq_eq_false_iff_ne]; omega
        have HM2 : Hid (metL Q i (k + 1) = m) := Lib.hid (by rw [HM.out, if_neg hji])
        clear HM hji
        go_wp2
        go_roundw
        case rel => exact ⟨k + 1, by omega, by go_num, by rw [HM2.out], hb2⟩
        case measure => simp [intOf]; omega
    · have hltz : ¬ (k : Int) < (Q.length : Int) := by omega
      obtain rfl : k = Q.length := by omega
      obtain ⟨e1, e2⟩ := HR.out.met_place i
      obtain ⟨m, hm⟩ : ∃ m, metL Q i Q.length = m := ⟨_, rfl⟩
      rw [hm] at e1 e2 ⊢
      have HQr := Lib.hid (HQ.out.below hb)
      have CTake := Lib.hid (HS.out.take _ Q i wr HQr.out HI.out (by omega))
      have CPlace := Lib.hid (fun w' (h : Below wr.heap.size wr w') => HS.out.place _ Q i w' (HQr.out.below h) HI.out)
      rw [e1] at CPlace
      have HbF := Lib.hid (hW2.trans (hb.mono hW2.size))
      cases hh : has Q i with
      | true =>
        have hm0 : 0 ≤ m := by rw [hh] at e2; simpa using e2.symm
        have hmb : decide (0 ≤ m) = true := decide_eq_true hm0
        have e3 : takeL Q i = (remL i Q, true) := by unfold takeL; rw [hh]; rfl
        rw [e3] at CTake
        clear e1 e2 e3 hm hh hm0
        go_wp2_with fail
        (with_reducible refine CTake.out.mono ?_)
        rintro _ wt ⟨⟨t, rfl, ht⟩, hbt⟩
        have CP2 := Lib.hid (fun w' (h : Below wt.heap.size wt w') => CPlace.out w' (hbt.trans (h.mono hbt.size)))
        have hbF := HbF.out.trans (hbt.mono HbF.out.size)
        clear ht CTake CPlace HbF
        go_upto_region 14 with fail
        refine Whole.regionL ?_
        (try simp only [List.append])
        repeat (go_big_quiet_step (first | (go_at_call 16; (with_reducible exact Quiet.calls (CP2.out _ (Quiet.Behind.below _))))))
        refine wpQuiet_nil ?_
        rintro _ ⟨pz, rfl⟩
        have hq := hbF.trans (pz.below.mono hbF.size)
        generalize pz.world = ws at hq ⊢
        go_wp2
        go_ret
        exact ⟨rfl, hq⟩
      | false =>
        have hm0 : ¬ 0 ≤ m := by rw [hh] at e2; simpa using e2.symm
        have hmb : decide (0 ≤ m) = false := decide_eq_false hm0
        have e3 : takeL Q i = (Q, false) := by unfold takeL; rw [hh]; rfl
        rw [e3] at CTake
        clear e1 e2 e3 hm hh hm0
        go_wp2_with fail
        (with_reducible refine CTake.out.mono ?_)
        rintro _ wt ⟨⟨t, rfl, ht⟩, hbt⟩
        have CP2 := Lib.hid (fun w' (h : Below wt.heap.size wt w') => CPlace.out w' (hbt.trans (h.mono hbt.size)))
        have CSame := Lib.hid (fun w' (h : Below wt.heap.size wt w') => (by have := same_rows t _ Q Q w' (ht.below h) (HQr.out.below (hbt.trans (h.mono hbt.size))); simpa using this : Calls Try.prog 23 #[t, .slice qa Q.length qc] w' fun e w'' => e = .returned (.bool true) ∧ Below w'.heap.size w' w''))
        have hbF := HbF.out.trans (hbt.mono HbF.out.size)
        clear ht CTake CPlace HbF
        go_upto_region 14 with fail
        refine Whole.regionL ?_
        (try simp only [List.append])
        repeat (go_big_quiet_step (first | (go_at_call 16; (with_reducible exact Quiet.calls (CP2.out _ (Quiet.Behind.below _)))) | (go_at_call 23; (with_reducible exact Quiet.calls (CSame.out _ (Quiet.Behind.below _))))))
        refine wpQuiet_nil ?_
        rintro _ ⟨pz, rfl⟩
        have hq := hbF.trans (pz.below.mono hbF.size)
        generalize pz.world = ws at hq ⊢
        go_wp2
        go_ret
        exact ⟨rfl, hq⟩
end Go.Proofs.Ytimaehaaidjokaa.Queue
