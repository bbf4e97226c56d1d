/- QueueOrder: of two that wait the one that is ahead stands ahead; to be ahead is an order: the walk, over what the calls say. -/
import Derived.Test.YtimaehaaidjokaaUIds
namespace Go.Proofs.Ytimaehaaidjokaa.Queue
open Go.RowKit

set_option maxHeartbeats 4000000 in
set_option maxRecDepth 100000 in
theorem queueOrder_any (S : Says) (v : Value) (ls : List E) (a b c : E) (w : World) (hv : Row w v ls) (ha : Fair a) (hb : Fair b) (hc : Fair c) :
    Calls Try.prog 5 #[v, val a, val b, val c] w fun e w' => e = .returned (.bool true) ∧ Below w.heap.size w w' := by
  have HF := Lib.hid (And.intro ha (And.intro hb hc))
  have HSA := Lib.hid (fun (x y : E) (hx : Fair x) (hy : Fair y) (r : Bool) (h : ahead x y = r) w => (by rw [← h]; exact S.ahead x y w hx hy : Calls Try.prog 20 #[val x, val y] w fun e w' => e = .returned (.bool r) ∧ Below w.heap.size w w'))
  obtain ⟨W, hW⟩ : ∃ W, W = ((w.alloc (.cells #[.int .u64 (a.1 : Int), .int .i64 a.2] 25)).alloc (.cells #[.int .u64 (b.1 : Int), .int .i64 b.2] 25)).alloc (.cells #[.int .u64 (c.1 : Int), .int .i64 c.2] 25) := ⟨_, rfl⟩
  have hwW : Below w.heap.size w W := by rw [hW]; exact (((Below.refl _ _).alloc (Nat.le_refl _) _).alloc (by simp) _).alloc (by simp; omega) _
  have HBa := Lib.hid (fun w' (h : Below W.heap.size W w') => box_cells 25 w w' a (by
    rw [hW] at h
    exact (((Below.refl _ _).alloc (Nat.le_refl _) _).alloc (by simp) _).trans (h.mono (by simp))))
  have HBb := Lib.hid (fun w' (h : Below W.heap.size W w') => box_cells 25 (w.alloc (.cells #[.int .u64 (a.1 : Int), .int .i64 a.2] 25)) w' b (by
    rw [hW] at h
    exact ((Below.refl _ _).alloc (Nat.le_refl _) _).trans (h.mono (by simp))))
  have HBc := Lib.hid (fun w' (h : Below W.heap.size W w') => box_cells 25 ((w.alloc (.cells #[.int .u64 (a.1 : Int), .int .i64 a.2] 25)).alloc (.cells #[.int .u64 (b.1 : Int), .int .i64 b.2] 25)) w' c (by
    rw [hW] at h
    exact h))
  simp only [World.size_alloc] at HBa HBb HBc
  have HV := Lib.hid (hv.below hwW)
  have HX := Lib.hid (examples_any S W)
  have HS := Lib.hid S
  have HW := Lib.hid hW
  clear hv ha hb hc S hW
  obtain ⟨a1, a2⟩ := a
  obtain ⟨b1, b2⟩ := b
  obtain ⟨c1, c2⟩ := c
  unfold val
  simp only at HBa HBb HBc HW
  go_enter Try.func5, Try.ntmps5
  go_upto_region 1 with fail
  rw [← HW.out]
  clear HW
  go_wp2_with fail
  (with_reducible refine HX.out.mono ?_)
  rintro _ w1 ⟨rfl, k1⟩
  have HP := Lib.hid (pushed_rows HS.out v ls w1 (HV.out.below k1))
  go_wp2_with fail
  (with_reducible refine HP.out.mono ?_)
  rintro _ w2 ⟨⟨q0, rfl, hq⟩, k2⟩
  have hR := pushed_right right_nil ls
  obtain ⟨Q, hQ⟩ : ∃ Q, Q = pushedL [] ls := ⟨_, rfl⟩
  rw [← hQ] at hq hR
  have hW2 := k1.trans (k2.mono k1.size)
  have hfew := hR.few
  have HR := Lib.hid hR
  have HQ := Lib.hid hq
  obtain ⟨qa, qc, rfl, _, _⟩ := hq.slice
  clear hR hQ hq HP k1 k2 HX HV
  go_wp2
  go_loopw [11] (fun t wr => ∃ k : Nat, k ≤ Q.length ∧ t = .int .i64 k ∧ Below w2.heap.size w2 wr) (fun t _ => Q.length - (intOf t).toNat)
  case atStart => exact ⟨0, Nat.zero_le _, rfl, Below.refl _ _⟩
  case round =>
    obtain ⟨i, hi, rfl, hbo⟩ := hrel
    obtain ⟨wo, rfl⟩ : ∃ wo, wo = wr := ⟨_, rfl⟩
    by_cases hlt : i < Q.length
    · have hltz : (i : Int) < (Q.length : Int) := by omega
      have hi0 : (0 : Int) ≤ (i : Int) := by omega
      obtain ⟨g, o, rfl, hg, hcl⟩ := HQ.out.cells hlt
      obtain ⟨x, hx⟩ : ∃ x, Q[i]? = some x := ⟨_, List.getElem?_eq_getElem hlt⟩
      have HXX := Lib.hid hx
      have HC := Lib.hid hcl
      clear hx hcl
      go_wp2
      go_loopw [12] (fun t wr => ∃ k : Nat, k ≤ Q.length ∧ t = .int .i64 k ∧ Below w2.heap.size w2 wr) (fun t _ => Q.length - (intOf t).toNat)
      case atStart => exact ⟨0, Nat.zero_le _, rfl, hbo⟩
      case round =>
        obtain ⟨k, hk, rfl, hbi⟩ := hrel
        by_cases hlk : k < Q.length
        · have hlkz : (k : Int) < (Q.length : Int) := by omega
          have hk0 : (0 : Int) ≤ (k : Int) := by omega
          obtain ⟨y, hy⟩ : ∃ y, Q[k]? = some y := ⟨_, List.getElem?_eq_getElem hlk⟩
          obtain ⟨fx, x0, x1⟩ := HC.out.below hg hbi i x HXX.out
          obtain ⟨fy, y0, y1⟩ := HC.out.below hg hbi k y hy
          have hgw : g < wr.heap.size := by have := hbi.size; omega
          have e0 : ∀ q : Quiet.Behind wr, q.world.cell? ⟨g, o + i * 2, none⟩ = some (.int .u64 (x.1 : Int)) := Quiet.cell hgw x0
          have e1 : ∀ q : Quiet.Behind wr, q.world.cell? ⟨g, o + i * 2 + 1, none⟩ = some (.int .i64 x.2) := Quiet.cell hgw x1
          have e2 : ∀ q : Quiet.Behind wr, q.world.cell? ⟨g, o + k * 2, none⟩ = some (.int .u64 (y.1 : Int)) := Quiet.cell hgw y0
          have e3 : ∀ q : Quiet.Behind wr, q.world.cell? ⟨g, o + k * 2 + 1, none⟩ = some (.int .i64 y.2) := Quiet.cell hgw y1
          obtain ⟨r, hr⟩ : ∃ r, decide ((i : Int) < (k : Int)) = r := ⟨_, rfl⟩
          have hrr : ahead x y = r := by rw [HR.out.order HXX.out hy, ← hr]; simp
          have hrn : decide (i < k) = r := by rw [← hr]; simp
          have HA := Lib.hid (HSA.out x y fx fy r hrr)
          unfold val at HA
          clear hy fx fy x0 x1 y0 y1 hrr
          cases r with
          | true =>
            go_wp2_with fail
            refine Quiet.region (by kernel_rfl) (by kernel_rfl) ?_
            repeat (go_big_quiet_step (first | (go_at_call 20; (with_reducible exact Quiet.calls (HA.out _)))))
            refine wpQuiet_nil ?_
            rintro _ ⟨pq, rfl⟩
            have hq := hbi.trans (pq.below.mono hbi.size)
            generalize pq.world = ws at hq ⊢
            clear e0 e1 e2 e3
            go_wp2
            go_roundw
            case rel => exact ⟨k + 1, by omega, by go_num, hq⟩
            case measure => simp [intOf]; omega
          | false =>
            go_wp2_with fail
            refine Quiet.region (by kernel_rfl) (by kernel_rfl) ?_
            repeat (go_big_quiet_step (first | (go_at_call 20; (with_reducible exact Quiet.calls (HA.out _)))))
            refine wpQuiet_nil ?_
            rintro _ ⟨pq, rfl⟩
            have hq := hbi.trans (pq.below.mono hbi.size)
            generalize pq.world = ws at hq ⊢
            clear e0 e1 e2 e3
            go_wp2
            go_roundw
            case rel => exact ⟨k + 1, by omega, by go_num, hq⟩
            case measure => simp [intOf]; omega
        · have hlkz : ¬ (k : Int) < (Q.length : Int) := by omega
          go_wp2
          go_roundw
          case rel => exact ⟨i + 1, by omega, by go_num, hbi⟩
          case measure => simp [intOf]; omega
    · have hltz : ¬ (i : Int) < (Q.length : Int) := by omega
      have hbf := hW2.trans (hbo.mono hW2.size)
      have l0 : ∀ q : Quiet.Behind wo, q.world.cell? ⟨w.heap.size, 0, none⟩ = some (.int .u64 (a1 : Int)) := fun q => (HBa.out q.world (hbf.trans (q.below.mono hbf.size))).1
      have l1 : ∀ q : Quiet.Behind wo, q.world.cell? ⟨w.heap.size, 1, none⟩ = some (.int .i64 a2) := fun q => (HBa.out q.world (hbf.trans (q.below.mono hbf.size))).2
      have l2 : ∀ q : Quiet.Behind wo, q.world.cell? ⟨w.heap.size + 1, 0, none⟩ = some (.int .u64 (b1 : Int)) := fun q => (HBb.out q.world (hbf.trans (q.below.mono hbf.size))).1
      have l3 : ∀ q : Quiet.Behind wo, q.world.cell? ⟨w.heap.size + 1, 1, none⟩ = some (.int .i64 b2) := fun q => (HBb.out q.world (hbf.trans (q.below.mono hbf.size))).2
      have l4 : ∀ q : Quiet.Behind wo, q.world.cell? ⟨w.heap.size + 1 + 1, 0, none⟩ = some (.int .u64 (c1 : Int)) := fun q => (HBc.out q.world (hbf.trans (q.below.mono hbf.size))).1
      have l5 : ∀ q : Quiet.Behind wo, q.world.cell? ⟨w.heap.size + 1 + 1, 1, none⟩ = some (.int .i64 c2) := fun q => (HBc.out q.world (hbf.trans (q.below.mono hbf.size))).2
      have CAA := Lib.hid (HSA.out (a1, a2) (a1, a2) HF.out.1 HF.out.1 false (ahead_irrefl _))
      obtain ⟨s1, hs1⟩ : ∃ s, ahead (a1, a2) (b1, b2) = s := ⟨_, rfl⟩
      obtain ⟨s2, hs2⟩ : ∃ s, ahead (b1, b2) (a1, a2) = s := ⟨_, rfl⟩
      obtain ⟨s3, hs3⟩ : ∃ s, ahead (b1, b2) (c1, c2) = s := ⟨_, rfl⟩
      obtain ⟨s4, hs4⟩ : ∃ s, ahead (a1, a2) (c1, c2) = s := ⟨_, rfl⟩
      obtain ⟨se, hse⟩ : ∃ s, eqE (a1, a2) (b1, b2) = s := ⟨_, rfl⟩
      have CAB := Lib.hid (HSA.out (a1, a2) (b1, b2) HF.out.1 HF.out.2.1 s1 hs1)
      have CBA := Lib.hid (HSA.out (b1, b2) (a1, a2) HF.out.2.1 HF.out.1 s2 hs2)
      have CBC := Lib.hid (HSA.out (b1, b2) (c1, c2) HF.out.2.1 HF.out.2.2 s3 hs3)
      have CAC := Lib.hid (HSA.out (a1, a2) (c1, c2) HF.out.1 HF.out.2.2 s4 hs4)
      have heq : ∀ w, (binOp .eql 25 (.agg #[.int .u64 (a1 : Int), .int .i64 a2]) (.agg #[.int .u64 (b1 : Int), .int .i64 b2])).run Try.prog w = .ok (.bool se) w := fun w => by rw [← hse]; exact eql_e (a1, a2) (b1, b2) w
      have key : (s1 = true ∧ s2 = false ∧ (s3 = false ∨ (s3 = true ∧ s4 = true))) ∨ (s1 = false ∧ s2 = true) ∨ (s1 = false ∧ s2 = false ∧ se = true) := by
        cases s1 with
        | true =>
          left
          refine ⟨rfl, by rw [← hs2]; exact ahead_asymm hs1, ?_⟩
          cases s3 with
          | false => exact .inl rfl
          | true => exact .inr ⟨rfl, by rw [← hs4]; exact ahead_trans hs1 hs3⟩
        | false =>
          right
          cases s2 with
          | true => exact .inl ⟨rfl, rfl⟩
          | false =>
            right
            refine ⟨rfl, rfl, ?_⟩
            rw [← hse, eqE_iff]
            refine Classical.byContradiction fun hne => ?_
            rcases ahead_total hne with h | h
            · rw [hs1] at h; cases h
            · rw [hs2] at h; cases h
      have hbF := hwW.trans (hbf.mono hwW.size)
      unfold val at CAA CAB CBA CBC CAC
      simp only at CAA CAB CBA CBC CAC
      clear hs1 hs2 hs3 hs4 hse HBa HBb HBc HSA HF HS HR HQ hbf hbo
      rcases key with ⟨rfl, rfl, h3 | ⟨rfl, rfl⟩⟩ | ⟨rfl, rfl⟩ | ⟨rfl, rfl, rfl⟩
      · subst h3
        go_upto_region 13 with fail
        refine Whole.regionL ?_
        (try simp only [List.append])
        repeat (go_big_quiet_step (first | (go_at_call 20; (with_reducible first | exact Quiet.calls (CAA.out _) | exact Quiet.calls (CAB.out _) | exact Quiet.calls (CBA.out _) | exact Quiet.calls (CBC.out _) | exact Quiet.calls (CAC.out _)))))
        refine wpQuiet_nil ?_
        rintro _ ⟨pq, rfl⟩
        have hq := hbF.trans (pq.below.mono hbF.size)
        generalize pq.world = ws at hq ⊢
        go_wp2
        go_ret
        exact ⟨rfl, hq⟩
      · go_upto_region 13 with fail
        refine Whole.regionL ?_
        (try simp only [List.append])
        repeat (go_big_quiet_step (first | (go_at_call 20; (with_reducible first | exact Quiet.calls (CAA.out _) | exact Quiet.calls (CAB.out _) | exact Quiet.calls (CBA.out _) | exact Quiet.calls (CBC.out _) | exact Quiet.calls (CAC.out _)))))
        refine wpQuiet_nil ?_
        rintro _ ⟨pq, rfl⟩
        have hq := hbF.trans (pq.below.mono hbF.size)
        generalize pq.world = ws at hq ⊢
        go_wp2
        go_ret
        exact ⟨rfl, hq⟩
      · go_upto_region 13 with fail
        refine Whole.regionL ?_
        (try simp only [List.append])
        repeat (go_big_quiet_step (first | (go_at_call 20; (with_reducible first | exact Quiet.calls (CAA.out _) | exact Quiet.calls (CAB.out _) | exact Quiet.calls (CBA.out _) | exact Quiet.calls (CBC.out _) | exact Quiet.calls (CAC.out _)))))
        refine wpQuiet_nil ?_
        rintro _ ⟨pq, rfl⟩
        have hq := hbF.trans (pq.below.mono hbF.size)
        generalize pq.world = ws at hq ⊢
        go_wp2
        go_ret
        exact ⟨rfl, hq⟩
      · go_upto_region 13 with fail
        refine Whole.regionL ?_
        (try simp only [List.append])
        repeat (go_big_quiet_step (first | (go_at_call 20; (with_reducible first | exact Quiet.calls (CAA.out _) | exact Quiet.calls (CAB.out _) | exact Quiet.calls (CBA.out _) | exact Quiet.calls (CBC.out _) | exact Quiet.calls (CAC.out _)))))
        refine wpQuiet_nil ?_
        rintro _ ⟨pq, rfl⟩
        have hq := hbF.trans (pq.below.mono hbF.size)
        generalize pq.world = ws at hq ⊢
        go_wp2
        go_ret
        exact ⟨rfl, hq⟩
end Go.Proofs.Ytimaehaaidjokaa.Queue
