/- What the document's own Right answers of any queue; of memory that was there nothing turns. -/
import Derived.Test.YtimaehaaidjokaaURefP
namespace Go.Proofs.Ytimaehaaidjokaa.Queue
open Go.RowKit

/-- What is asked of one place. -/
def okAt (ls : List E) (k : Nat) : Bool := match ls[k]? with
  | none => true
  | some x => decide (0 ≤ x.2 ∧ x.2 ≤ 9) && (match k with
    | 0 => true
    | m + 1 => match ls[m]? with
      | some y => ahead y x
      | none => true) && decide (placeL ls x.1 = (k : Int))
def rightB (ls : List E) : Bool := decide (ls.length ≤ 32) && (List.range ls.length).all (okAt ls)
theorem okAt_iff {ls : List E} {k : Nat} {x : E} (hx : ls[k]? = some x) : okAt ls k = true ↔ (0 ≤ x.2 ∧ x.2 ≤ 9) ∧ (∀ m y, k = m + 1 → ls[m]? = some y → ahead y x = true) ∧ placeL ls x.1 = (k : Int) := by
  unfold okAt
  rw [hx]
  simp only [Bool.and_eq_true, decide_eq_true_eq]
  cases k with
  | zero => simp
  | succ m =>
    constructor
    · rintro ⟨⟨h1, h2⟩, h3⟩
      refine ⟨h1, ?_, h3⟩
      intro n y hn hy
      have : n = m := by omega
      subst this
      simp only [hy] at h2
      exact h2
    · rintro ⟨h1, h2, h3⟩
      refine ⟨⟨h1, ?_⟩, h3⟩
      cases hy : ls[m]? with
      | none => simp only [hy]
      | some y => simp only [hy]; exact h2 m y rfl hy
theorem rightB_iff (ls : List E) : rightB ls = true ↔ Right ls := by
  rw [right_iff]
  unfold rightB
  rw [Bool.and_eq_true, decide_eq_true_eq, List.all_eq_true]
  constructor
  · rintro ⟨h1, h2⟩
    have at_ : ∀ j x, ls[j]? = some x → okAt ls j = true := fun j x hx => h2 j (List.mem_range.2 (List.getElem?_eq_some_iff.1 hx).1)
    refine ⟨h1, ?_, ?_, ?_⟩
    · intro x hx
      obtain ⟨j, hj⟩ := List.mem_iff_getElem?.1 hx
      exact ((okAt_iff hj).1 (at_ j x hj)).1
    · intro j x y hx hy
      exact ((okAt_iff hy).1 (at_ _ y hy)).2.1 j x rfl hx
    · intro j x hx
      exact ((okAt_iff hx).1 (at_ j x hx)).2.2
  · rintro ⟨h1, h2, h3, h4⟩
    refine ⟨h1, fun j hj => ?_⟩
    have hj := List.mem_range.1 hj
    have hx := List.getElem?_eq_getElem hj
    exact (okAt_iff hx).2 ⟨h2 _ (List.getElem_mem hj), fun m y hm hy => by subst hm; exact h3 m y _ hy hx, h4 j _ hx⟩
theorem rightB_no {ls : List E} {k : Nat} (hk : k < ls.length) (h : okAt ls k = false) : rightB ls = false := by
  cases hc : rightB ls
  · rfl
  · unfold rightB at hc
    rw [Bool.and_eq_true, List.all_eq_true] at hc
    rw [hc.2 k (List.mem_range.2 hk)] at h; cases h
theorem rightB_yes {ls : List E} (h : ls.length ≤ 32) (ha : ∀ k, k < ls.length → okAt ls k = true) : rightB ls = true := by
  unfold rightB
  rw [Bool.and_eq_true, decide_eq_true_eq, List.all_eq_true]
  exact ⟨h, fun k hk => ha k (List.mem_range.1 hk)⟩

set_option maxHeartbeats 4000000 in
set_option maxRecDepth 100000 in
theorem refRight_rows (v : Value) (ls : List E) (w : World) (hv : Row w v ls) :
    Calls Try.prog 19 #[v] w fun e w' => e = .returned (.bool (rightB ls)) ∧ Below w.heap.size w w' := by
  have hl := hv.len
  obtain ⟨ad, cap, rfl, _, _⟩ := hv.slice
  have HV := Lib.hid hv
  clear hv
  by_cases h32 : 32 < ls.length
  · have hz : (32 : Int) < (ls.length : Int) := by omega
    have HE : Hid (rightB ls = false) := Lib.hid (by unfold rightB; rw [decide_eq_false (by omega)]; rfl)
    go_enter Try.func19, Try.ntmps19
    go_wp2
    go_ret
    exact ⟨by rw [HE.out]; rfl, Below.refl _ _⟩
  have hz : ¬ (32 : Int) < (ls.length : Int) := by omega
  go_enter Try.func19, Try.ntmps19
  go_wp2
  go_loopw [3] (fun t wr => ∃ k : Nat, k ≤ ls.length ∧ t = .int .i64 k ∧ (∀ j, j < k → okAt ls j = true) ∧ Below w.heap.size w wr) (fun t _ => ls.length - (intOf t).toNat)
  case atStart => exact ⟨0, Nat.zero_le _, rfl, fun j hj => absurd hj (by omega), Below.refl _ _⟩
  case round =>
    obtain ⟨k, hk, rfl, hn, hb⟩ := hrel
    have HN := Lib.hid hn
    clear hn
    by_cases hlt : k < ls.length
    · have hltz : (k : Int) < (ls.length : Int) := by omega
      have hk0 : (0 : Int) ≤ (k : Int) := by omega
      obtain ⟨g, o, rfl, hg, hc⟩ := HV.out.cells hlt
      obtain ⟨x, hx⟩ : ∃ x, ls[k]? = some x := ⟨_, List.getElem?_eq_getElem hlt⟩
      obtain ⟨_, x0, x1⟩ := hc.below hg hb k x hx
      have hgw : g < wr.heap.size := by have := hb.size; omega
      have c0 : ∀ q : Quiet.Behind wr, q.world.cell? ⟨g, o + k * 2, none⟩ = some (.int .u64 (x.1 : Int)) := Quiet.cell hgw x0
      have c1 : ∀ q : Quiet.Behind wr, q.world.cell? ⟨g, o + k * 2 + 1, none⟩ = some (.int .i64 x.2) := Quiet.cell hgw x1
      have HPl : Hid (∀ w', Below wr.heap.size wr w' → Calls Try.prog 17 #[.slice (some ⟨g, o, none⟩) ls.length cap, .int .u64 (x.1 : Int)] w' fun e w'' => e = .returned (.int .i64 (placeL ls x.1)) ∧ Below w'.heap.size w' w'') := Lib.hid (fun w' h => refPlace_rows _ ls x.1 w' (HV.out.below (hb.trans (h.mono hb.size))))
      have HO := Lib.hid (okAt_iff hx)
      have HX := Lib.hid hx
      have HC := Lib.hid (hc.below hg hb)
      clear hx x0 x1 hc
      obtain ⟨i, p⟩ := x
      obtain ⟨r, hr⟩ : ∃ r, placeL ls i = r := ⟨_, rfl⟩
      simp only at HPl HO c0 c1
      rw [hr] at HPl
      by_cases hp1 : p < 0
      · have hp1b : decide (p < 0) = true := decide_eq_true hp1
        have HNo : Hid (rightB ls = false) := Lib.hid (rightB_no hlt (by cases hc : okAt ls k; rfl; have := (HO.out.1 hc).1.1; omega))
        clear hr
        go_wp2_with fail
        refine Quiet.region (by kernel_rfl) (by kernel_rfl) ?_
        repeat (go_big_quiet_step (first | (go_at_call 21; (with_reducible exact Quiet.calls (HA.out _))) | (go_at_call 17; (with_reducible exact Quiet.calls (HPl.out _ (Quiet.Behind.below _))))))
        refine wpQuiet_nil ?_
        rintro _ ⟨pq, rfl⟩
        have hq := hb.trans (pq.below.mono hb.size)
        generalize pq.world = ws at hq ⊢
        go_wp2
        go_ret
        exact ⟨by rw [HNo.out]; rfl, hq⟩
      have hp1b : decide (p < 0) = false := decide_eq_false hp1
      by_cases hp2 : 9 < p
      · have hp2b : decide (9 < p) = true := decide_eq_true hp2
        have HNo : Hid (rightB ls = false) := Lib.hid (rightB_no hlt (by cases hc : okAt ls k; rfl; have := (HO.out.1 hc).1.2; omega))
        clear hr
        go_wp2_with fail
        refine Quiet.region (by kernel_rfl) (by kernel_rfl) ?_
        repeat (go_big_quiet_step (first | (go_at_call 21; (with_reducible exact Quiet.calls (HA.out _))) | (go_at_call 17; (with_reducible exact Quiet.calls (HPl.out _ (Quiet.Behind.below _))))))
        refine wpQuiet_nil ?_
        rintro _ ⟨pq, rfl⟩
        have hq := hb.trans (pq.below.mono hb.size)
        generalize pq.world = ws at hq ⊢
        go_wp2
        go_ret
        exact ⟨by rw [HNo.out]; rfl, hq⟩
      have hp2b : decide (9 < p) = false := decide_eq_false hp2
      cases k with
      | zero =>
        have hkb : decide ((0 : Int) < ((0 : Nat) : Int)) = false := by decide
        simp only [Nat.zero_mul, Nat.add_zero] at c0 c1
        by_cases hpl : r = 0
        · have hne : (r != ((0 : Nat) : Int)) = false := by rw [hpl]; rfl
          have HN2 : Hid (∀ j, j < 0 + 1 → okAt ls j = true) := Lib.hid (fun j hj => by
            have : j = 0 := by omega
            subst this
            exact HO.out.2 ⟨by omega, fun m y hm => by omega, by rw [hr, hpl]; rfl⟩)
          clear hpl hr
          go_wp2_with fail
          refine Quiet.region (by kernel_rfl) (by kernel_rfl) ?_
          repeat (go_big_quiet_step (first | (go_at_call 21; (with_reducible exact Quiet.calls (HA.out _))) | (go_at_call 17; (with_reducible exact Quiet.calls (HPl.out _ (Quiet.Behind.below _))))))
          refine wpQuiet_nil ?_
          rintro _ ⟨pq, rfl⟩
          have hq := hb.trans (pq.below.mono hb.size)
          generalize pq.world = ws at hq ⊢
          go_wp2
          go_roundw
          case rel => exact ⟨0 + 1, by omega, by go_num, HN2.out, hq⟩
          case measure => simp [intOf]; omega
        · have hne : (r != ((0 : Nat) : Int)) = true := by rw [bne_iff_ne]; exact hpl
          have HNo : Hid (rightB ls = false) := Lib.hid (rightB_no hlt (by cases hc : okAt ls 0; rfl; have := (HO.out.1 hc).2.2; rw [hr] at this; exact absurd this hpl))
          clear hpl hr
          go_wp2_with fail
          refine Quiet.region (by kernel_rfl) (by kernel_rfl) ?_
          repeat (go_big_quiet_step (first | (go_at_call 21; (with_reducible exact Quiet.calls (HA.out _))) | (go_at_call 17; (with_reducible exact Quiet.calls (HPl.out _ (Quiet.Behind.below _))))))
          refine wpQuiet_nil ?_
          rintro _ ⟨pq, rfl⟩
          have hq := hb.trans (pq.below.mono hb.size)
          generalize pq.world = ws at hq ⊢
          go_wp2
          go_ret
          exact ⟨by rw [HNo.out]; rfl, hq⟩
      | succ m =>
        have hkb : decide ((0 : Int) < ((m + 1 : Nat) : Int)) = true := decide_eq_true (by omega)
        have hml : m < ls.length := by omega
        have hmz : (m : Int) < (ls.length : Int) := by omega
        have hm0 : (0 : Int) ≤ (m : Int) := by omega
        have hwm : IntKind.i64.wrap (((m + 1 : Nat) : Int) - 1) = (m : Int) := by rw [IntKind.wrap_i64]; omega
        obtain ⟨y, hy⟩ : ∃ y, ls[m]? = some y := ⟨_, List.getElem?_eq_getElem hml⟩
        obtain ⟨_, y0, y1⟩ := HC.out m y hy
        have c2 : ∀ q : Quiet.Behind wr, q.world.cell? ⟨g, o + m * 2, none⟩ = some (.int .u64 (y.1 : Int)) := Quiet.cell hgw y0
        have c3 : ∀ q : Quiet.Behind wr, q.world.cell? ⟨g, o + m * 2 + 1, none⟩ = some (.int .i64 y.2) := Quiet.cell hgw y1
        have HY := Lib.hid hy
        clear hy y0 y1
        obtain ⟨s, hs⟩ : ∃ s, ahead y (i, p) = s := ⟨_, rfl⟩
        have HA : Hid (∀ w, Calls Try.prog 21 #[.agg #[.int .u64 (y.1 : Int), .int .i64 y.2], .agg #[.int .u64 (i : Int), .int .i64 p]] w fun e w' => e = .returned (.bool s) ∧ Below w.heap.size w w') := Lib.hid (fun w => by rw [← hs]; exact refAhead_any y (i, p) w)
        cases s with
        | false =>
          have HNo : Hid (rightB ls = false) := Lib.hid (rightB_no hlt (by cases hc : okAt ls (m + 1); rfl; have := (HO.out.1 hc).2.1 m y rfl HY.out; rw [hs] at this; cases this))
          clear hs hr
          go_wp2_with fail
          refine Quiet.region (by kernel_rfl) (by kernel_rfl) ?_
          repeat (go_big_quiet_step (first | (go_at_call 21; (with_reducible exact Quiet.calls (HA.out _))) | (go_at_call 17; (with_reducible exact Quiet.calls (HPl.out _ (Quiet.Behind.below _))))))
          refine wpQuiet_nil ?_
          rintro _ ⟨pq, rfl⟩
          have hq := hb.trans (pq.below.mono hb.size)
          generalize pq.world = ws at hq ⊢
          go_wp2
          go_ret
          exact ⟨by rw [HNo.out]; rfl, hq⟩
        | true =>
          by_cases hpl : r = ((m + 1 : Nat) : Int)
          · have hne : (r != ((m + 1 : Nat) : Int)) = false := by rw [hpl]; simp
            have HN2 : Hid (∀ j, j < m + 1 + 1 → okAt ls j = true) := Lib.hid (fun j hj => by
              by_cases hjk : j = m + 1
              · subst hjk
                exact HO.out.2 ⟨by omega, fun n z hn hz => by
                  have : n = m := by omega
                  subst this; rw [HY.out] at hz; cases hz; exact hs, by rw [hr, hpl]⟩
              · exact HN.out j (by omega))
            clear hpl hr hs
            go_wp2_with fail
            refine Quiet.region (by kernel_rfl) (by kernel_rfl) ?_
            repeat (go_big_quiet_step (first | (go_at_call 21; (with_reducible exact Quiet.calls (HA.out _))) | (go_at_call 17; (with_reducible exact Quiet.calls (HPl.out _ (Quiet.Behind.below _))))))
            refine wpQuiet_nil ?_
            rintro _ ⟨pq, rfl⟩
            have hq := hb.trans (pq.below.mono hb.size)
            generalize pq.world = ws at hq ⊢
            go_wp2
            go_roundw
            case rel => exact ⟨m + 1 + 1, by omega, by go_num, HN2.out, hq⟩
            case measure => simp [intOf]; omega
          · have hne : (r != ((m + 1 : Nat) : Int)) = true := by rw [bne_iff_ne]; exact hpl
            have HNo : Hid (rightB ls = false) := Lib.hid (rightB_no hlt (by cases hc : okAt ls (m + 1); rfl; have := (HO.out.1 hc).2.2; rw [hr] at this; exact absurd this hpl))
            clear hpl hr hs
            go_wp2_with fail
            refine Quiet.region (by kernel_rfl) (by kernel_rfl) ?_
            repeat (go_big_quiet_step (first | (go_at_call 21; (with_reducible exact Quiet.calls (HA.out _))) | (go_at_call 17; (with_reducible exact Quiet.calls (HPl.out _ (Quiet.Behind.below _))))))
            refine wpQuiet_nil ?_
            rintro _ ⟨pq, rfl⟩
            have hq := hb.trans (pq.below.mono hb.size)
            generalize pq.world = ws at hq ⊢
            go_wp2
            go_ret
            exact ⟨by rw [HNo.out]; rfl, hq⟩
    · have hltz : ¬ (k : Int) < (ls.length : Int) := by omega
      have HE : Hid (rightB ls = true) := Lib.hid (rightB_yes (by omega) (fun j hj => HN.out j (by omega)))
      go_wp2
      go_ret
      exact ⟨by rw [HE.out]; rfl, hb⟩
end Go.Proofs.Ytimaehaaidjokaa.Queue
