/- What the document's own Times and Get answer of amounts (chapter 3); of memory that was there nothing turns. -/
import Derived.Test.YtbilkeadhflibaaGreatDoorVRefB
import Derived.Test.YtbilkeadhflibaaGreatDoorYMul
import Derived.Test.YtbilkeadhflibaaGreatDoorRefTextV
namespace Go.Proofs.YtbilkeadhflibaaGreatDoor.Job
open Go.RowKit Go.Proofs.YtbilkeadhflibaaGreatDoor.Wire Go.Proofs.YtbilkeadhflibaaGreatDoor.Vec

theorem refMul_told (x y : Nat) (_hx : x < 18446744073709551616) (hy : y < 18446744073709551616) (w : World) :
    Calls Tryz.prog 72 #[.int .u64 x, .int .u64 y] w fun e w' => e = .returned (.tuple #[.int .u64 (mulT x y), .bool (mulB x y)]) ∧ Below w.heap.size w w' := by
  by_cases hy0 : y = 0
  · subst hy0
    refine (Num.refMul_zero x w).mono ?_
    rintro e w' ⟨rfl, rfl⟩
    exact ⟨by unfold mulT mulB; simp, Below.refl _ _⟩
  · have hdiv : (18446744073709551615 : Int) / (y : Int) = ((18446744073709551615 / y : Nat) : Int) := by rw [Int.natCast_ediv]; rfl
    have hq : 18446744073709551615 / y ≤ 18446744073709551615 := Nat.div_le_self _ _
    have hle : x ≤ 18446744073709551615 / y ↔ x * y ≤ 18446744073709551615 := Nat.le_div_iff_mul_le (by omega)
    by_cases hp : x * y < 18446744073709551616
    · have h1 : x ≤ 18446744073709551615 / y := hle.2 (by omega)
      refine (Num.refMul_yes x y (x * y) _ hq (by omega) hdiv (by rw [← Int.natCast_mul]; exact Mul64.wrapN _ hp) (by omega) w).mono ?_
      rintro e w' ⟨rfl, rfl⟩
      exact ⟨by rw [mulT_of hp]; unfold mulB; rw [decide_eq_true (mul_le.2 hp)], Below.refl _ _⟩
    · have h1 : ¬ x ≤ 18446744073709551615 / y := fun h => by have := hle.1 h; omega
      refine (Num.refMul_no x y _ hq (by omega) hdiv (by omega) w).mono ?_
      rintro e w' ⟨rfl, rfl⟩
      have hn : ¬ (x : Int) * (y : Int) ≤ 18446744073709551615 := fun h => hp (mul_le.1 h)
      exact ⟨by unfold mulT mulB; rw [if_neg hn, decide_eq_false hn], Below.refl _ _⟩

/-- What lies in memory in a round of Times. -/
structure TimesAt (w0 : World) (H : Nat) (x v : Nat → Int) (k : Nat) (w : World) : Prop where
  below : Below H w0 w
  big : H + 3 ≤ w.heap.size
  bx : w.heap[H]? = some (boxR x)
  res : w.heap[H + 1]? = some (boxR fun _ => 0)
  sum : w.heap[H + 2]? = some (boxR (till k v))
theorem TimesAt.more {w0 w w' : World} {H k : Nat} {x v : Nat → Int} (h : TimesAt w0 H x v k w) (hb : Below w.heap.size w w') : TimesAt w0 H x v k w' := by
  have := h.big
  exact ⟨h.below.trans (hb.mono (by omega)), by have := hb.size; omega, (hb.block _ (by omega)).trans h.bx, (hb.block _ (by omega)).trans h.res, (hb.block _ (by omega)).trans h.sum⟩
theorem TimesAt.set {w0 w : World} {H k : Nat} {x v : Nat → Int} (h : TimesAt w0 H x v k w) (hk : k < 4) : TimesAt w0 H x v (k + 1) (w.setCell ⟨H + 2, k, none⟩ (.int .u64 (v k))) :=
  ⟨h.below.setCell (p := ⟨H + 2, k, none⟩) (by simp) _, by simpa using h.big, (heap_setCell_other _ _ _ _ (by simp)).trans h.bx, (heap_setCell_other _ _ _ _ (by simp)).trans h.res, till_set h.sum hk⟩
theorem three_boxes (w : World) (x : Nat → Int) : TimesAt w w.heap.size x (fun _ => 0) 0 (((w.alloc (boxR x)).alloc (boxR fun _ => 0)).alloc (boxR fun _ => 0)) := by
  have s1 : (w.alloc (boxR x)).heap.size = w.heap.size + 1 := World.size_alloc ..
  have s2 : ((w.alloc (boxR x)).alloc (boxR fun _ => 0)).heap.size = w.heap.size + 2 := by rw [World.size_alloc, s1]
  refine ⟨(((Below.refl _ _).alloc (Nat.le_refl _) _).alloc (by omega) _).alloc (by omega) _, by rw [World.size_alloc, s2]; omega, ?_, ?_, ?_⟩
  · rw [heap_alloc_old _ _ (by omega), heap_alloc_old _ _ (by omega)]; exact heap_alloc_new _ _
  · rw [heap_alloc_old _ _ (by omega)]
    have := heap_alloc_new (w.alloc (boxR x)) (boxR fun _ => 0); rw [s1] at this; exact this
  · rw [till_zero]
    have := heap_alloc_new ((w.alloc (boxR x)).alloc (boxR fun _ => 0)) (boxR fun _ => 0); rw [s2] at this; exact this

set_option maxHeartbeats 4000000 in
set_option maxRecDepth 100000 in
theorem refTimes_on (x : Nat → Nat) (hx : ∀ k, k < 4 → x k < 18446744073709551616) (n : Nat) (hn : n < 18446744073709551616) (w : World) :
    Calls Tryz.prog 32 #[vec (x 0) (x 1) (x 2) (x 3), .int .u64 n] w fun e w' =>
      (((∀ i, i < 4 → mulB (x i) n = true) ∧ e = .returned (.tuple #[vec (mulT (x 0) n) (mulT (x 1) n) (mulT (x 2) n) (mulT (x 3) n), .bool true])) ∨ ((¬ ∀ i, i < 4 → mulB (x i) n = true) ∧ e = .returned (.tuple #[vec 0 0 0 0, .bool false]))) ∧ Below w.heap.size w w' := by
  have f0 := three_boxes w (fun i => (x i : Int))
  obtain ⟨v, hv⟩ : ∃ v : Nat → Int, v = fun i => mulT (x i) n := ⟨_, rfl⟩
  have f1 : TimesAt w w.heap.size (fun i => (x i : Int)) v 0 (((w.alloc (boxR fun i => (x i : Int))).alloc (boxR fun _ => 0)).alloc (boxR fun _ => 0)) := ⟨f0.below, f0.big, f0.bx, f0.res, by rw [till_zero]; have := f0.sum; rwa [till_zero] at this⟩
  obtain ⟨X, hX⟩ : ∃ X : Nat → Int, X = fun i => (x i : Int) := ⟨_, rfl⟩
  have HM : Hid (∀ k, k < 4 → ∀ W, Calls Tryz.prog 72 #[.int .u64 (X k), .int .u64 n] W fun e w' => e = .returned (.tuple #[.int .u64 (v k), .bool (mulB (X k) n)]) ∧ Below W.heap.size W w') := Lib.hid fun k hk W => by
    rw [hX, hv]
    exact refMul_told (x k) n (hx k hk) hn W
  rw [← hX] at f1
  have hXe : ∀ k, (x k : Int) = X k := fun k => by rw [hX]
  simp only [hXe]
  have HE : Hid (v 0 = mulT (X 0) n ∧ v 1 = mulT (X 1) n ∧ v 2 = mulT (X 2) n ∧ v 3 = mulT (X 3) n) := Lib.hid (by rw [hv, hX]; exact ⟨rfl, rfl, rfl, rfl⟩)
  obtain ⟨W, hW⟩ : ∃ W, W = ((w.alloc (boxR X)).alloc (boxR fun _ => 0)).alloc (boxR fun _ => 0) := ⟨_, rfl⟩
  rw [← hW] at f1
  have HW := Lib.hid hW
  have HA := Lib.hid f1
  clear hW f0 f1 hX hXe hv hx hn
  unfold vec
  unfold boxR at HW
  go_enter Tryz.func32, Tryz.ntmps32
  go_upto_region 2 with fail
  rw [← HW.out]
  clear HW
  go_wp2
  go_loopw [7] (fun t wr => ∃ k : Nat, k ≤ 4 ∧ t = .int .i64 k ∧ (∀ i, i < k → mulB (X i) n = true) ∧ TimesAt w w.heap.size X v k wr) (fun t _ => 4 - (intOf t).toNat)
  case atStart => exact ⟨0, Nat.zero_le _, rfl, fun i hi => absurd hi (by omega), HA.out⟩
  case round =>
    obtain ⟨k, hk, rfl, hall, hs⟩ := hrel
    have HS := Lib.hid hs
    have HL := Lib.hid hall
    clear hall hs
    by_cases hlt : k < 4
    · have hltz : (k : Int) < 4 := by omega
      have hk0 : (0 : Int) ≤ (k : Int) := by omega
      have hbig := HS.out.big
      have c0 : wr.cell? ⟨w.heap.size, k, none⟩ = some (.int .u64 (X k)) := cellR HS.out.bx k hlt
      have HC := Lib.hid (HM.out k hlt)
      obtain ⟨p, hp⟩ : ∃ p, X k = p := ⟨_, rfl⟩
      obtain ⟨d, hd⟩ : ∃ d, v k = d := ⟨_, rfl⟩
      obtain ⟨b, hb⟩ : ∃ b, mulB (X k) n = b := ⟨_, rfl⟩
      rw [hp] at c0
      rw [hb, hp, hd] at HC
      have HD := Lib.hid (And.intro hd hb)
      clear hp hd hb
      cases b with
      | true =>
        have HN : Hid (∀ i, i < k + 1 → mulB (X i) n = true) := Lib.hid (fun i hi => by
          by_cases e : i = k
          · subst e; exact HD.out.2
          · exact HL.out i (by omega))
        go_wp2_with fail
        with_reducible refine (HC.out _).mono ?_
        rintro e ws ⟨rfl, kb⟩
        have hq := HS.out.more kb
        have s0 := cellR hq.sum k hlt
        have z0 : ws.frozen? ⟨w.heap.size + 1 + 1, k, none⟩ = false := frozen_at hq.sum
        have HQ := Lib.hid (hq.set hlt)
        rw [HD.out.1] at HQ
        clear c0 hq kb
        go_wp2
        go_roundw
        case rel => exact ⟨k + 1, by omega, by go_num, HN.out, HQ.out⟩
        case measure => simp [intOf]; omega
      | false =>
        have HN : Hid (¬ ∀ i, i < 4 → mulB (X i) n = true) := Lib.hid (fun h => by have := h k hlt; rw [HD.out.2] at this; cases this)
        go_wp2_with fail
        with_reducible refine (HC.out _).mono ?_
        rintro e ws ⟨rfl, kb⟩
        have hq := HS.out.more kb
        obtain ⟨r0, r1, r2, r3, z0, z1, z2, z3⟩ := cells4R hq.res
        have HDd := Lib.hid (set4_boxR hq.res 0 0 0 0)
        have HB := Lib.hid (set4_below (T := w.heap.size + 1) (a := 0) (b := 0) (c := 0) (d := 0) hq.below (by omega))
        clear c0 hq kb
        go_wp2
        obtain ⟨d0, d1, d2, d3⟩ := HDd.out
        unfold set4 at d0 d1 d2 d3
        refine bodyPost_ret (v := .tuple #[.agg #[.int .u64 0, .int .u64 0, .int .u64 0, .int .u64 0], .bool false]) (by simp [results, Tryz.results32, go_sem, d0, d1, d2, d3]) rfl ?_
        exact ⟨.inr ⟨HN.out, rfl⟩, HB.out⟩
    · obtain rfl : k = 4 := by omega
      have hq := HS.out
      have hs := hq.sum
      rw [till_four] at hs
      obtain ⟨m0, m1, m2, m3, _⟩ := cells4R hs
      obtain ⟨r0, r1, r2, r3, z0, z1, z2, z3⟩ := cells4R hq.res
      have HDd := Lib.hid (set4_boxR hq.res (v 0) (v 1) (v 2) (v 3))
      have HB := Lib.hid (set4_below (T := w.heap.size + 1) (a := v 0) (b := v 1) (c := v 2) (d := v 3) hq.below (by omega))
      clear hq hs
      go_wp2
      obtain ⟨d0, d1, d2, d3⟩ := HDd.out
      unfold set4 at d0 d1 d2 d3
      refine bodyPost_ret (v := .tuple #[.agg #[.int .u64 (v 0), .int .u64 (v 1), .int .u64 (v 2), .int .u64 (v 3)], .bool true]) (by simp [results, Tryz.results32, go_sem, d0, d1, d2, d3]) rfl ?_
      refine ⟨.inl ⟨fun i hi => HL.out i hi, ?_⟩, HB.out⟩
      rw [HE.out.1, HE.out.2.1, HE.out.2.2.1, HE.out.2.2.2]
/-- Times. -/
theorem refTimes_any (x : V4) (hx : fair4 x) (n : Nat) (hn : n < 18446744073709551616) (w : World) :
    Calls Tryz.prog 32 #[vecV x, .int .u64 n] w fun e w' => e = .returned (.tuple #[vecV ((timesV x n).getD (0, 0, 0, 0)), .bool (timesV x n).isSome]) ∧ Below w.heap.size w w' := by
  refine (refTimes_on (am x) hx n hn w).mono ?_
  rintro e w' ⟨⟨hall, he⟩ | ⟨hno, he⟩, hb⟩
  · have h : ∀ k, k < 4 → am x k * n < 18446744073709551616 := fun k hk => mul_le.1 (of_decide_eq_true (hall k hk))
    rw [timesV_some h]
    refine ⟨?_, hb⟩
    rw [he, mulT_of (h 0 (by omega)), mulT_of (h 1 (by omega)), mulT_of (h 2 (by omega)), mulT_of (h 3 (by omega))]
    rfl
  · have h : timesV x n = none := by
      refine if_neg fun hc => hno fun k hk => ?_
      obtain ⟨h0, h1, h2, h3⟩ := hc
      rcases lt4 hk with rfl | rfl | rfl | rfl
      · exact decide_eq_true (mul_le.2 h0)
      · exact decide_eq_true (mul_le.2 h1)
      · exact decide_eq_true (mul_le.2 h2)
      · exact decide_eq_true (mul_le.2 h3)
    rw [h]
    exact ⟨he, hb⟩
end Go.Proofs.YtbilkeadhflibaaGreatDoor.Job
