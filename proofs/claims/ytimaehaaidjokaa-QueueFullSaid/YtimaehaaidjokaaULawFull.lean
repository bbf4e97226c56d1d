/- QueueFull: thirty-two may wait; one more, one of a number that is there, or of no priority, is refused, and turns nothing: the walk, over what the calls say. -/
import Derived.Test.YtimaehaaidjokaaUIds
namespace Go.Proofs.Ytimaehaaidjokaa.Queue
open Go.RowKit

theorem fullL_len (n : Nat) : (fullL n).length = min n 32 := (full_spec n).1
theorem full_push (k : Nat) (h : k < 32) : pushL (fullL k) (fullE k) = (fullL (k + 1), 0) := by
  rw [fullL_succ, (full_spec k).2.2, if_pos h]
theorem full_no (k : Nat) (h : ¬ k < 32) : pushL (fullL k) (fullE k) = (fullL k, 9) ∧ fullL (k + 1) = fullL k := by
  have e : pushL (fullL k) (fullE k) = (fullL k, 9) := by rw [(full_spec k).2.2, if_neg h]
  exact ⟨e, by rw [fullL_succ, e]⟩

set_option maxHeartbeats 8000000 in
set_option maxRecDepth 100000 in
theorem queueFull_any (S : Says) (N : Nat) (e : E) (w : World) (_hN : N ≤ 255) (he : Fair e) :
    Calls Try.prog 8 #[.int .u8 (N : Int), val e] w fun e w' => e = .returned (.bool true) ∧ Below w.heap.size w w' := by
  obtain ⟨W, hW⟩ : ∃ W, W = w.alloc (.cells #[.int .u64 (e.1 : Int), .int .i64 e.2] 25) := ⟨_, rfl⟩
  have hwW : Below w.heap.size w W := by rw [hW]; exact (Below.refl _ _).alloc (Nat.le_refl _) _
  have HB := Lib.hid (fun w' (h : Below W.heap.size W w') => box_cells 25 w w' e (by rw [hW] at h; exact h))
  have HX := Lib.hid (examples_any S W)
  have HS := Lib.hid S
  have HE := Lib.hid he
  have HW := Lib.hid hW
  obtain ⟨M, hM⟩ : ∃ M, N % 40 = M := ⟨_, rfl⟩
  have hM40 : M < 40 := by rw [← hM]; exact Nat.mod_lt _ (by decide)
  have htm : Int.tmod (N : Int) 40 = (M : Int) := by rw [← hM]; rfl
  have hem : (N : Int) % 40 = (M : Int) := by rw [← hM]; rfl
  have hwM : IntKind.i64.wrap (M : Int) = (M : Int) := by rw [IntKind.wrap_i64]; omega
  have hwM8 : IntKind.u8.wrap (M : Int) = (M : Int) := by unfold IntKind.wrap; simp [IntKind.signed, IntKind.bits]; omega
  clear S he hW hM
  obtain ⟨i, p⟩ := e
  unfold val
  simp only at HB HW
  go_enter Try.func8, Try.ntmps8
  go_upto_region 1 with fail
  rw [← HW.out]
  clear HW
  go_wp2_with fail
  (with_reducible refine HX.out.mono ?_)
  rintro _ w1 ⟨rfl, k1⟩
  clear HX
  go_wp2
  go_loopw [6, 8] (fun q t wr => ∃ k : Nat, k ≤ M ∧ t = .int .i64 k ∧ Row wr q (fullL k) ∧ Below w1.heap.size w1 wr) (fun _ t _ => M - (intOf t).toNat)
  case atStart => exact ⟨0, Nat.zero_le _, rfl, Row.nil _, Below.refl _ _⟩
  case round =>
    obtain ⟨k, hk, rfl, hr, hb⟩ := hrel
    by_cases hlt : k < M
    · have hltz : (k : Int) < (M : Int) := by omega
      have hw3 : IntKind.i64.wrap ((k : Int) * 3) = ((k * 3 : Nat) : Int) := by rw [IntKind.wrap_i64] <;> omega
      have hw4 : IntKind.u64.wrap ((k * 3 : Nat) : Int) = ((k * 3 : Nat) : Int) := by unfold IntKind.wrap; simp [IntKind.signed, IntKind.bits]; omega
      have htk : Int.tmod (k : Int) 10 = ((k % 10 : Nat) : Int) := rfl
      have hek : (k : Int) % 10 = ((k % 10 : Nat) : Int) := rfl
      have hw5 : IntKind.i64.wrap ((k % 10 : Nat) : Int) = ((k % 10 : Nat) : Int) := by rw [IntKind.wrap_i64]; omega
      have hfe : Fair (fullE k) := by unfold Fair fullE; simp only; omega
      have hrl : (fullL k).length ≤ 8796093022208 := by rw [fullL_len]; omega
      have HP := Lib.hid (HS.out.push _ _ (fullE k) wr hr hfe hrl)
      have HR := Lib.hid hr
      by_cases h32 : k < 32
      · have h32z : (k : Int) < 32 := by omega
        have h32b : decide ((k : Int) < 32) = true := decide_eq_true h32z
        have h32n : decide (k < 32) = true := decide_eq_true h32
        rw [full_push k h32] at HP
        unfold val fullE at HP
        simp only at HP
        obtain ⟨k3, hk3⟩ : ∃ x : Int, ((k * 3 : Nat) : Int) = x := ⟨_, rfl⟩
        obtain ⟨k10, hk10⟩ : ∃ x : Int, ((k % 10 : Nat) : Int) = x := ⟨_, rfl⟩
        rw [hk3] at hw3 hw4 HP
        rw [hk10] at htk hek hw5 HP
        clear hr hfe hrl hk3 hk10
        go_wp2_with fail
        (with_reducible refine HP.out.mono ?_)
        rintro _ wq ⟨⟨u, rfl, hu⟩, hbq⟩
        have HU := Lib.hid hu
        clear hu HP hw3 hw4 htk hek hw5
        go_wp2
        go_roundw
        case rel => exact ⟨k + 1, by omega, by go_num, HU.out, hb.trans (hbq.mono hb.size)⟩
        case measure => simp [intOf]; omega
      · have h32z : ¬ (k : Int) < 32 := by omega
        have h32b : decide ((k : Int) < 32) = false := decide_eq_false h32z
        have h32n : decide (k < 32) = false := decide_eq_false h32
        obtain ⟨f1, f2⟩ := full_no k h32
        rw [f1] at HP
        unfold val fullE at HP
        simp only at HP
        obtain ⟨k3, hk3⟩ : ∃ x : Int, ((k * 3 : Nat) : Int) = x := ⟨_, rfl⟩
        obtain ⟨k10, hk10⟩ : ∃ x : Int, ((k % 10 : Nat) : Int) = x := ⟨_, rfl⟩
        rw [hk3] at hw3 hw4 HP
        rw [hk10] at htk hek hw5 HP
        have HF2 := Lib.hid f2
        clear hr hfe hrl hk3 hk10 f1 f2
        go_wp2_with fail
        (with_reducible refine HP.out.mono ?_)
        rintro _ wq ⟨⟨u, rfl, hu⟩, hbq⟩
        have HU := Lib.hid hu
        have HSm := Lib.hid (by have := same_rows u _ _ _ wq hu (HR.out.below hbq); simpa using this : Calls Try.prog 23 #[u, u6] wq fun e w'' => e = .returned (.bool true) ∧ Below wq.heap.size wq w'')
        clear hu HP hw3 hw4 htk hek hw5
        go_wp2_with fail
        (with_reducible refine HSm.out.mono ?_)
        rintro _ wz ⟨rfl, hbz⟩
        have hb2 := hb.trans (hbq.mono hb.size)
        go_wp2
        go_roundw
        case rel => exact ⟨k + 1, by omega, by go_num, by rw [HF2.out]; exact HU.out.below hbz, hb2.trans (hbz.mono hb2.size)⟩
        case measure => simp [intOf]; omega
    · have hltz : ¬ (k : Int) < (M : Int) := by omega
      obtain rfl : k = M := by omega
      obtain ⟨f1, f2, _⟩ := full_spec k
      obtain ⟨s1, s2, s3⟩ := push_says (fullL k) (i, p)
      have hfr := fullL_right k
      obtain ⟨Q, hQ⟩ : ∃ Q, fullL k = Q := ⟨_, rfl⟩
      have f2 := f2 i
      rw [hQ] at hr f1 f2 s1 s2 s3
      have hWr := k1.trans (hb.mono k1.size)
      obtain ⟨c0, c1⟩ := HB.out _ hWr
      (try simp only at c0 c1)
      have HQ := Lib.hid hr
      have HFin := Lib.hid (hwW.trans (hWr.mono hwW.size))
      obtain ⟨qa, qc, rfl, _, _⟩ := hr.slice
      have hi := HE.out.1
      (try simp only at hi)
      have htd : Int.tdiv (i : Int) 3 = ((i / 3 : Nat) : Int) := rfl
      have hed : (i : Int) / 3 = ((i / 3 : Nat) : Int) := rfl
      have htm' : Int.tmod (i : Int) 3 = ((i % 3 : Nat) : Int) := rfl
      have hem' : (i : Int) % 3 = ((i % 3 : Nat) : Int) := rfl
      have hwd : IntKind.u64.wrap ((i / 3 : Nat) : Int) = ((i / 3 : Nat) : Int) := by unfold IntKind.wrap; simp [IntKind.signed, IntKind.bits]; omega
      have hwm : IntKind.u64.wrap ((i % 3 : Nat) : Int) = ((i % 3 : Nat) : Int) := by unfold IntKind.wrap; simp [IntKind.signed, IntKind.bits]; omega
      have hwl : IntKind.u64.wrap (Q.length : Int) = (Q.length : Int) := by unfold IntKind.wrap; simp [IntKind.signed, IntKind.bits]; omega
      have HCP := Lib.hid (fun w' (h : Below wr.heap.size wr w') => HS.out.push _ Q (i, p) w' (HQ.out.below h) HE.out (by omega))
      obtain ⟨R, hRr⟩ : ∃ R, pushL Q (i, p) = R := ⟨_, rfl⟩
      rw [hRr] at s1 s2 s3 HCP
      obtain ⟨RQ, RC⟩ := R
      (try simp only at s1 s2 s3)
      have hQ32 : Q.length ≤ 32 := by omega
      obtain ⟨L1, hL1⟩ : ∃ L1 : Int, (Q.length : Int) + 1 = L1 := ⟨_, rfl⟩
      have hwl1 : IntKind.i64.wrap ((Q.length : Int) + 1) = L1 := by rw [IntKind.wrap_i64] <;> omega
      have HL1 := Lib.hid hL1
      clear hL1
      obtain ⟨d, hd⟩ : ∃ d, i / 3 = d := ⟨_, rfl⟩
      obtain ⟨m, hm⟩ : ∃ m, i % 3 = m := ⟨_, rfl⟩
      rw [hd] at htd hed hwd f2
      rw [hm] at htm' hem' hwm f2
      rw [← f1] at f2
      have HH := Lib.hid f2
      clear hr hQ f1 f2 hRr hfr hltz hd hm htm hem hwM hwM8 hM40 hlt
      unfold val at HCP
      simp only at HCP
      by_cases hm0 : m = 0
      · have hmb : ((m : Int) == 0) = true := by rw [hm0]; rfl
        by_cases hdl : d < Q.length
        · have hdz : (d : Int) < (Q.length : Int) := by omega
          have hdb : decide ((d : Int) < (Q.length : Int)) = true := decide_eq_true hdz
          have hhas : has Q i = true := by rw [HH.out]; exact decide_eq_true ⟨hm0, hdl⟩
          clear HH hm0
          by_cases hp1 : p < 0
          · have HC : Hid (RC = 1) := Lib.hid (by rw [s1, if_pos (.inl hp1)])
            have HRQ : Hid (RQ = Q) := Lib.hid (s3 (by rw [HC.out]; decide))
            rw [HC.out] at HCP
            clear s1 s2 s3 HC
            simp only [Int.cast_ofNat_Int] at HCP
            go_wp2_with fail
            (with_reducible refine (HCP.out _ (Below.refl _ _)).mono ?_)
            rintro _ wq ⟨⟨u, rfl, hu⟩, hbq⟩
            obtain ⟨c0, c1⟩ := HB.out _ (hWr.trans (hbq.mono hWr.size))
            (try simp only at c0 c1)
            have hbF := HFin.out.trans (hbq.mono HFin.out.size)
            rw [HRQ.out] at hu
            have HU := Lib.hid hu
            have HQq := Lib.hid (HQ.out.below hbq)
            obtain ⟨ua, uc, rfl, _, _⟩ := hu.slice
            have CSame := Lib.hid (fun w' (h : Below wq.heap.size wq w') => (by have := same_rows _ _ Q Q w' (HU.out.below h) (HQq.out.below h); simpa using this : Calls Try.prog 23 #[.slice ua Q.length uc, .slice qa Q.length qc] w' fun e w'' => e = .returned (.bool true) ∧ Below w'.heap.size w' w''))
            have hne : ((Q.length : Int) == L1) = false := by rw [beq_eq_false_iff_ne]; have := HL1.out; omega
            clear hu HCP HRQ hbq HB HQ HS
            go_upto_region 22 with fail
            clear c0 c1
            refine Whole.regionL ?_
            (try simp only [List.append])
            repeat (go_big_quiet_step (first | (go_at_call 23; (with_reducible exact Quiet.calls (CSame.out _ (Quiet.Behind.below _))))))
            refine wpQuiet_nil ?_
            rintro _ ⟨pz, rfl⟩
            have hq := hbF.trans (pz.below.mono hbF.size)
            generalize pz.world = ws at hq ⊢
            go_wp2
            go_ret
            exact ⟨rfl, hq⟩
          by_cases hp2 : 9 < p
          · have HC : Hid (RC = 1) := Lib.hid (by rw [s1, if_pos (.inr hp2)])
            have HRQ : Hid (RQ = Q) := Lib.hid (s3 (by rw [HC.out]; decide))
            rw [HC.out] at HCP
            clear s1 s2 s3 HC
            simp only [Int.cast_ofNat_Int] at HCP
            go_wp2_with fail
            (with_reducible refine (HCP.out _ (Below.refl _ _)).mono ?_)
            rintro _ wq ⟨⟨u, rfl, hu⟩, hbq⟩
            obtain ⟨c0, c1⟩ := HB.out _ (hWr.trans (hbq.mono hWr.size))
            (try simp only at c0 c1)
            have hbF := HFin.out.trans (hbq.mono HFin.out.size)
            rw [HRQ.out] at hu
            have HU := Lib.hid hu
            have HQq := Lib.hid (HQ.out.below hbq)
            obtain ⟨ua, uc, rfl, _, _⟩ := hu.slice
            have CSame := Lib.hid (fun w' (h : Below wq.heap.size wq w') => (by have := same_rows _ _ Q Q w' (HU.out.below h) (HQq.out.below h); simpa using this : Calls Try.prog 23 #[.slice ua Q.length uc, .slice qa Q.length qc] w' fun e w'' => e = .returned (.bool true) ∧ Below w'.heap.size w' w''))
            have hne : ((Q.length : Int) == L1) = false := by rw [beq_eq_false_iff_ne]; have := HL1.out; omega
            clear hu HCP HRQ hbq HB HQ HS
            go_upto_region 22 with fail
            clear c0 c1
            refine Whole.regionL ?_
            (try simp only [List.append])
            repeat (go_big_quiet_step (first | (go_at_call 23; (with_reducible exact Quiet.calls (CSame.out _ (Quiet.Behind.below _))))))
            refine wpQuiet_nil ?_
            rintro _ ⟨pz, rfl⟩
            have hq := hbF.trans (pz.below.mono hbF.size)
            generalize pz.world = ws at hq ⊢
            go_wp2
            go_ret
            exact ⟨rfl, hq⟩
          have hpp : ¬ (p < 0 ∨ 9 < p) := fun h => h.elim hp1 hp2
          have HC : Hid (RC = 8) := Lib.hid (by rw [s1, if_neg hpp, if_pos hhas])
          have HRQ : Hid (RQ = Q) := Lib.hid (s3 (by rw [HC.out]; decide))
          rw [HC.out] at HCP
          clear s1 s2 s3 HC
          simp only [Int.cast_ofNat_Int] at HCP
          go_wp2_with fail
          (with_reducible refine (HCP.out _ (Below.refl _ _)).mono ?_)
          rintro _ wq ⟨⟨u, rfl, hu⟩, hbq⟩
          obtain ⟨c0, c1⟩ := HB.out _ (hWr.trans (hbq.mono hWr.size))
          (try simp only at c0 c1)
          have hbF := HFin.out.trans (hbq.mono HFin.out.size)
          rw [HRQ.out] at hu
          have HU := Lib.hid hu
          have HQq := Lib.hid (HQ.out.below hbq)
          obtain ⟨ua, uc, rfl, _, _⟩ := hu.slice
          have CSame := Lib.hid (fun w' (h : Below wq.heap.size wq w') => (by have := same_rows _ _ Q Q w' (HU.out.below h) (HQq.out.below h); simpa using this : Calls Try.prog 23 #[.slice ua Q.length uc, .slice qa Q.length qc] w' fun e w'' => e = .returned (.bool true) ∧ Below w'.heap.size w' w''))
          have hne : ((Q.length : Int) == L1) = false := by rw [beq_eq_false_iff_ne]; have := HL1.out; omega
          clear hu HCP HRQ hbq HB HQ HS
          go_upto_region 22 with fail
          clear c0 c1
          refine Whole.regionL ?_
          (try simp only [List.append])
          repeat (go_big_quiet_step (first | (go_at_call 23; (with_reducible exact Quiet.calls (CSame.out _ (Quiet.Behind.below _))))))
          refine wpQuiet_nil ?_
          rintro _ ⟨pz, rfl⟩
          have hq := hbF.trans (pz.below.mono hbF.size)
          generalize pz.world = ws at hq ⊢
          go_wp2
          go_ret
          exact ⟨rfl, hq⟩
        · have hdz : ¬ (d : Int) < (Q.length : Int) := by omega
          have hdb : decide ((d : Int) < (Q.length : Int)) = false := decide_eq_false hdz
          have hhas : has Q i = false := by rw [HH.out]; exact decide_eq_false (fun h => hdl h.2)
          clear HH hm0
          by_cases hp1 : p < 0
          · have HC : Hid (RC = 1) := Lib.hid (by rw [s1, if_pos (.inl hp1)])
            have HRQ : Hid (RQ = Q) := Lib.hid (s3 (by rw [HC.out]; decide))
            rw [HC.out] at HCP
            clear s1 s2 s3 HC
            simp only [Int.cast_ofNat_Int] at HCP
            go_wp2_with fail
            (with_reducible refine (HCP.out _ (Below.refl _ _)).mono ?_)
            rintro _ wq ⟨⟨u, rfl, hu⟩, hbq⟩
            obtain ⟨c0, c1⟩ := HB.out _ (hWr.trans (hbq.mono hWr.size))
            (try simp only at c0 c1)
            have hbF := HFin.out.trans (hbq.mono HFin.out.size)
            rw [HRQ.out] at hu
            have HU := Lib.hid hu
            have HQq := Lib.hid (HQ.out.below hbq)
            obtain ⟨ua, uc, rfl, _, _⟩ := hu.slice
            have CSame := Lib.hid (fun w' (h : Below wq.heap.size wq w') => (by have := same_rows _ _ Q Q w' (HU.out.below h) (HQq.out.below h); simpa using this : Calls Try.prog 23 #[.slice ua Q.length uc, .slice qa Q.length qc] w' fun e w'' => e = .returned (.bool true) ∧ Below w'.heap.size w' w''))
            have hne : ((Q.length : Int) == L1) = false := by rw [beq_eq_false_iff_ne]; have := HL1.out; omega
            clear hu HCP HRQ hbq HB HQ HS
            go_upto_region 22 with fail
            clear c0 c1
            refine Whole.regionL ?_
            (try simp only [List.append])
            repeat (go_big_quiet_step (first | (go_at_call 23; (with_reducible exact Quiet.calls (CSame.out _ (Quiet.Behind.below _))))))
            refine wpQuiet_nil ?_
            rintro _ ⟨pz, rfl⟩
            have hq := hbF.trans (pz.below.mono hbF.size)
            generalize pz.world = ws at hq ⊢
            go_wp2
            go_ret
            exact ⟨rfl, hq⟩
          by_cases hp2 : 9 < p
          · have HC : Hid (RC = 1) := Lib.hid (by rw [s1, if_pos (.inr hp2)])
            have HRQ : Hid (RQ = Q) := Lib.hid (s3 (by rw [HC.out]; decide))
            rw [HC.out] at HCP
            clear s1 s2 s3 HC
            simp only [Int.cast_ofNat_Int] at HCP
            go_wp2_with fail
            (with_reducible refine (HCP.out _ (Below.refl _ _)).mono ?_)
            rintro _ wq ⟨⟨u, rfl, hu⟩, hbq⟩
            obtain ⟨c0, c1⟩ := HB.out _ (hWr.trans (hbq.mono hWr.size))
            (try simp only at c0 c1)
            have hbF := HFin.out.trans (hbq.mono HFin.out.size)
            rw [HRQ.out] at hu
            have HU := Lib.hid hu
            have HQq := Lib.hid (HQ.out.below hbq)
            obtain ⟨ua, uc, rfl, _, _⟩ := hu.slice
            have CSame := Lib.hid (fun w' (h : Below wq.heap.size wq w') => (by have := same_rows _ _ Q Q w' (HU.out.below h) (HQq.out.below h); simpa using this : Calls Try.prog 23 #[.slice ua Q.length uc, .slice qa Q.length qc] w' fun e w'' => e = .returned (.bool true) ∧ Below w'.heap.size w' w''))
            have hne : ((Q.length : Int) == L1) = false := by rw [beq_eq_false_iff_ne]; have := HL1.out; omega
            clear hu HCP HRQ hbq HB HQ HS
            go_upto_region 22 with fail
            clear c0 c1
            refine Whole.regionL ?_
            (try simp only [List.append])
            repeat (go_big_quiet_step (first | (go_at_call 23; (with_reducible exact Quiet.calls (CSame.out _ (Quiet.Behind.below _))))))
            refine wpQuiet_nil ?_
            rintro _ ⟨pz, rfl⟩
            have hq := hbF.trans (pz.below.mono hbF.size)
            generalize pz.world = ws at hq ⊢
            go_wp2
            go_ret
            exact ⟨rfl, hq⟩
          have hpp : ¬ (p < 0 ∨ 9 < p) := fun h => h.elim hp1 hp2
          by_cases hq32 : Q.length = 32
          · have hqz : ((Q.length : Int) == 32) = true := by rw [hq32]; rfl
            have hq33 : 32 ≤ Q.length := by omega
            clear hq32
            have HC : Hid (RC = 9) := Lib.hid (by rw [s1, if_neg hpp, if_neg (by rw [hhas]; simp), if_pos (by omega)])
            have HRQ : Hid (RQ = Q) := Lib.hid (s3 (by rw [HC.out]; decide))
            rw [HC.out] at HCP
            clear s1 s2 s3 HC
            simp only [Int.cast_ofNat_Int] at HCP
            go_wp2_with fail
            (with_reducible refine (HCP.out _ (Below.refl _ _)).mono ?_)
            rintro _ wq ⟨⟨u, rfl, hu⟩, hbq⟩
            obtain ⟨c0, c1⟩ := HB.out _ (hWr.trans (hbq.mono hWr.size))
            (try simp only at c0 c1)
            have hbF := HFin.out.trans (hbq.mono HFin.out.size)
            rw [HRQ.out] at hu
            have HU := Lib.hid hu
            have HQq := Lib.hid (HQ.out.below hbq)
            obtain ⟨ua, uc, rfl, _, _⟩ := hu.slice
            have CSame := Lib.hid (fun w' (h : Below wq.heap.size wq w') => (by have := same_rows _ _ Q Q w' (HU.out.below h) (HQq.out.below h); simpa using this : Calls Try.prog 23 #[.slice ua Q.length uc, .slice qa Q.length qc] w' fun e w'' => e = .returned (.bool true) ∧ Below w'.heap.size w' w''))
            have hne : ((Q.length : Int) == L1) = false := by rw [beq_eq_false_iff_ne]; have := HL1.out; omega
            clear hu HCP HRQ hbq HB HQ HS
            go_upto_region 22 with fail
            clear c0 c1
            refine Whole.regionL ?_
            (try simp only [List.append])
            repeat (go_big_quiet_step (first | (go_at_call 23; (with_reducible exact Quiet.calls (CSame.out _ (Quiet.Behind.below _))))))
            refine wpQuiet_nil ?_
            rintro _ ⟨pz, rfl⟩
            have hq := hbF.trans (pz.below.mono hbF.size)
            generalize pz.world = ws at hq ⊢
            go_wp2
            go_ret
            exact ⟨rfl, hq⟩
          · have hqz : ((Q.length : Int) == 32) = false := by rw [beq_eq_false_iff_ne]; omega
            have HC : Hid (RC = 0) := Lib.hid (by rw [s1, if_neg hpp, if_neg (by rw [hhas]; simp), if_neg (by omega)])
            have HRQ : Hid (RQ.length = Q.length + 1) := Lib.hid (s2 HC.out)
            rw [HC.out] at HCP
            clear s1 s2 s3 HC
            simp only [Int.cast_ofNat_Int] at HCP
            go_wp2_with fail
            (with_reducible refine (HCP.out _ (Below.refl _ _)).mono ?_)
            rintro _ wq ⟨⟨u, rfl, hu⟩, hbq⟩
            obtain ⟨c0, c1⟩ := HB.out _ (hWr.trans (hbq.mono hWr.size))
            (try simp only at c0 c1)
            have hbF := HFin.out.trans (hbq.mono HFin.out.size)
            obtain ⟨ua, uc, rfl, _, _⟩ := hu.slice
            have heq : ((RQ.length : Int) == L1) = true := by rw [beq_iff_eq, ← HL1.out, HRQ.out]; rfl
            clear hu HCP HRQ hbq HB HQ HS
            go_upto_region 22 with fail
            clear c0 c1
            refine Whole.regionL ?_
            (try simp only [List.append])
            repeat (go_big_quiet_step (fail))
            refine wpQuiet_nil ?_
            rintro _ ⟨pz, rfl⟩
            have hq := hbF.trans (pz.below.mono hbF.size)
            generalize pz.world = ws at hq ⊢
            go_wp2
            go_ret
            exact ⟨rfl, hq⟩
      · have hmb : ((m : Int) == 0) = false := by rw [beq_eq_false_iff_ne]; omega
        have hhas : has Q i = false := by rw [HH.out]; exact decide_eq_false (fun h => hm0 h.1)
        clear HH hm0
        by_cases hp1 : p < 0
        · have HC : Hid (RC = 1) := Lib.hid (by rw [s1, if_pos (.inl hp1)])
          have HRQ : Hid (RQ = Q) := Lib.hid (s3 (by rw [HC.out]; decide))
          rw [HC.out] at HCP
          clear s1 s2 s3 HC
          simp only [Int.cast_ofNat_Int] at HCP
          go_wp2_with fail
          (with_reducible refine (HCP.out _ (Below.refl _ _)).mono ?_)
          rintro _ wq ⟨⟨u, rfl, hu⟩, hbq⟩
          obtain ⟨c0, c1⟩ := HB.out _ (hWr.trans (hbq.mono hWr.size))
          (try simp only at c0 c1)
          have hbF := HFin.out.trans (hbq.mono HFin.out.size)
          rw [HRQ.out] at hu
          have HU := Lib.hid hu
          have HQq := Lib.hid (HQ.out.below hbq)
          obtain ⟨ua, uc, rfl, _, _⟩ := hu.slice
          have CSame := Lib.hid (fun w' (h : Below wq.heap.size wq w') => (by have := same_rows _ _ Q Q w' (HU.out.below h) (HQq.out.below h); simpa using this : Calls Try.prog 23 #[.slice ua Q.length uc, .slice qa Q.length qc] w' fun e w'' => e = .returned (.bool true) ∧ Below w'.heap.size w' w''))
          have hne : ((Q.length : Int) == L1) = false := by rw [beq_eq_false_iff_ne]; have := HL1.out; omega
          clear hu HCP HRQ hbq HB HQ HS
          go_upto_region 22 with fail
          clear c0 c1
          refine Whole.regionL ?_
          (try simp only [List.append])
          repeat (go_big_quiet_step (first | (go_at_call 23; (with_reducible exact Quiet.calls (CSame.out _ (Quiet.Behind.below _))))))
          refine wpQuiet_nil ?_
          rintro _ ⟨pz, rfl⟩
          have hq := hbF.trans (pz.below.mono hbF.size)
          generalize pz.world = ws at hq ⊢
          go_wp2
          go_ret
          exact ⟨rfl, hq⟩
        by_cases hp2 : 9 < p
        · have HC : Hid (RC = 1) := Lib.hid (by rw [s1, if_pos (.inr hp2)])
          have HRQ : Hid (RQ = Q) := Lib.hid (s3 (by rw [HC.out]; decide))
          rw [HC.out] at HCP
          clear s1 s2 s3 HC
          simp only [Int.cast_ofNat_Int] at HCP
          go_wp2_with fail
          (with_reducible refine (HCP.out _ (Below.refl _ _)).mono ?_)
          rintro _ wq ⟨⟨u, rfl, hu⟩, hbq⟩
          obtain ⟨c0, c1⟩ := HB.out _ (hWr.trans (hbq.mono hWr.size))
          (try simp only at c0 c1)
          have hbF := HFin.out.trans (hbq.mono HFin.out.size)
          rw [HRQ.out] at hu
          have HU := Lib.hid hu
          have HQq := Lib.hid (HQ.out.below hbq)
          obtain ⟨ua, uc, rfl, _, _⟩ := hu.slice
          have CSame := Lib.hid (fun w' (h : Below wq.heap.size wq w') => (by have := same_rows _ _ Q Q w' (HU.out.below h) (HQq.out.below h); simpa using this : Calls Try.prog 23 #[.slice ua Q.length uc, .slice qa Q.length qc] w' fun e w'' => e = .returned (.bool true) ∧ Below w'.heap.size w' w''))
          have hne : ((Q.length : Int) == L1) = false := by rw [beq_eq_false_iff_ne]; have := HL1.out; omega
          clear hu HCP HRQ hbq HB HQ HS
          go_upto_region 22 with fail
          clear c0 c1
          refine Whole.regionL ?_
          (try simp only [List.append])
          repeat (go_big_quiet_step (first | (go_at_call 23; (with_reducible exact Quiet.calls (CSame.out _ (Quiet.Behind.below _))))))
          refine wpQuiet_nil ?_
          rintro _ ⟨pz, rfl⟩
          have hq := hbF.trans (pz.below.mono hbF.size)
          generalize pz.world = ws at hq ⊢
          go_wp2
          go_ret
          exact ⟨rfl, hq⟩
        have hpp : ¬ (p < 0 ∨ 9 < p) := fun h => h.elim hp1 hp2
        by_cases hq32 : Q.length = 32
        · have hqz : ((Q.length : Int) == 32) = true := by rw [hq32]; rfl
          have hq33 : 32 ≤ Q.length := by omega
          clear hq32
          have HC : Hid (RC = 9) := Lib.hid (by rw [s1, if_neg hpp, if_neg (by rw [hhas]; simp), if_pos (by omega)])
          have HRQ : Hid (RQ = Q) := Lib.hid (s3 (by rw [HC.out]; decide))
          rw [HC.out] at HCP
          clear s1 s2 s3 HC
          simp only [Int.cast_ofNat_Int] at HCP
          go_wp2_with fail
          (with_reducible refine (HCP.out _ (Below.refl _ _)).mono ?_)
          rintro _ wq ⟨⟨u, rfl, hu⟩, hbq⟩
          obtain ⟨c0, c1⟩ := HB.out _ (hWr.trans (hbq.mono hWr.size))
          (try simp only at c0 c1)
          have hbF := HFin.out.trans (hbq.mono HFin.out.size)
          rw [HRQ.out] at hu
          have HU := Lib.hid hu
          have HQq := Lib.hid (HQ.out.below hbq)
          obtain ⟨ua, uc, rfl, _, _⟩ := hu.slice
          have CSame := Lib.hid (fun w' (h : Below wq.heap.size wq w') => (by have := same_rows _ _ Q Q w' (HU.out.below h) (HQq.out.below h); simpa using this : Calls Try.prog 23 #[.slice ua Q.length uc, .slice qa Q.length qc] w' fun e w'' => e = .returned (.bool true) ∧ Below w'.heap.size w' w''))
          have hne : ((Q.length : Int) == L1) = false := by rw [beq_eq_false_iff_ne]; have := HL1.out; omega
          clear hu HCP HRQ hbq HB HQ HS
          go_upto_region 22 with fail
          clear c0 c1
          refine Whole.regionL ?_
          (try simp only [List.append])
          repeat (go_big_quiet_step (first | (go_at_call 23; (with_reducible exact Quiet.calls (CSame.out _ (Quiet.Behind.below _))))))
          refine wpQuiet_nil ?_
          rintro _ ⟨pz, rfl⟩
          have hq := hbF.trans (pz.below.mono hbF.size)
          generalize pz.world = ws at hq ⊢
          go_wp2
          go_ret
          exact ⟨rfl, hq⟩
        · have hqz : ((Q.length : Int) == 32) = false := by rw [beq_eq_false_iff_ne]; omega
          have HC : Hid (RC = 0) := Lib.hid (by rw [s1, if_neg hpp, if_neg (by rw [hhas]; simp), if_neg (by omega)])
          have HRQ : Hid (RQ.length = Q.length + 1) := Lib.hid (s2 HC.out)
          rw [HC.out] at HCP
          clear s1 s2 s3 HC
          simp only [Int.cast_ofNat_Int] at HCP
          go_wp2_with fail
          (with_reducible refine (HCP.out _ (Below.refl _ _)).mono ?_)
          rintro _ wq ⟨⟨u, rfl, hu⟩, hbq⟩
          obtain ⟨c0, c1⟩ := HB.out _ (hWr.trans (hbq.mono hWr.size))
          (try simp only at c0 c1)
          have hbF := HFin.out.trans (hbq.mono HFin.out.size)
          obtain ⟨ua, uc, rfl, _, _⟩ := hu.slice
          have heq : ((RQ.length : Int) == L1) = true := by rw [beq_iff_eq, ← HL1.out, HRQ.out]; rfl
          clear hu HCP HRQ hbq HB HQ HS
          go_upto_region 22 with fail
          clear c0 c1
          refine Whole.regionL ?_
          (try simp only [List.append])
          repeat (go_big_quiet_step (fail))
          refine wpQuiet_nil ?_
          rintro _ ⟨pz, rfl⟩
          have hq := hbF.trans (pz.below.mono hbF.size)
          generalize pz.world = ws at hq ⊢
          go_wp2
          go_ret
          exact ⟨rfl, hq⟩
end Go.Proofs.Ytimaehaaidjokaa.Queue
