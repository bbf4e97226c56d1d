/- Right (chapter 14): of any queue, as the document has it; and what the five calls answer, together. -/
import Derived.Test.YtimaehaaidjokaaUTake
import Derived.Test.YtimaehaaidjokaaQuiet
namespace Go.Proofs.Ytimaehaaidjokaa.Queue
open Go.RowKit

/-- Is the one at a place ahead of the next? -/
def okNext (q : List E) (k : Nat) : Bool := match q[k]?, q[k + 1]? with
  | some x, some y => ahead x y
  | _, _ => true
def nextB (q : List E) : Bool := (List.range q.length).all (okNext q)
theorem okNext_get {q : List E} {k : Nat} {x y : E} (hx : q[k]? = some x) (hy : q[k + 1]? = some y) : okNext q k = ahead x y := by unfold okNext; rw [hx, hy]
theorem nextB_no {q : List E} {k : Nat} (hk : k < q.length) (h : okNext q k = false) : nextB q = false := by
  cases hc : nextB q
  · rfl
  · unfold nextB at hc
    rw [List.all_eq_true] at hc
    rw [hc k (List.mem_range.2 hk)] at h; cases h
theorem nextB_yes {q : List E} (h : ∀ k, k + 1 < q.length → okNext q k = true) : nextB q = true := by
  unfold nextB
  rw [List.all_eq_true]
  intro k hk
  have hk := List.mem_range.1 hk
  by_cases h1 : k + 1 < q.length
  · exact h k h1
  · unfold okNext
    rw [List.getElem?_eq_none (l := q) (i := k + 1) (by omega)]
    cases q[k]? <;> rfl
theorem nextB_iff {q : List E} : nextB q = true ↔ ∀ j x y, q[j]? = some x → q[j + 1]? = some y → ahead x y = true := by
  constructor
  · intro h j x y hx hy
    unfold nextB at h
    rw [List.all_eq_true] at h
    have := h j (List.mem_range.2 (List.getElem?_eq_some_iff.1 hx).1)
    rwa [okNext_get hx hy] at this
  · intro h
    refine nextB_yes fun k hk => ?_
    rw [okNext_get (List.getElem?_eq_getElem (by omega)) (List.getElem?_eq_getElem hk)]
    exact h k _ _ (List.getElem?_eq_getElem (by omega)) (List.getElem?_eq_getElem hk)

set_option maxHeartbeats 4000000 in
set_option maxRecDepth 100000 in
theorem holds_any (v : Value) (q : List E) (w : World) (hv : Row w v q) :
    Calls Try.prog 31 #[ordV, v] w fun e w' => e = .returned (.bool (nextB q)) ∧ Below w.heap.size w w' := by
  obtain ⟨W, hW⟩ : ∃ W, W = w.alloc boxO := ⟨_, rfl⟩
  have hwW : Below w.heap.size w W := by rw [hW]; exact (Below.refl _ _).alloc (Nat.le_refl _) _
  have hb : W.heap[w.heap.size]? = some boxO := by rw [hW]; exact heap_alloc_new _ _
  have hWs : W.heap.size = w.heap.size + 1 := by rw [hW]; simp
  have hl := hv.len
  have HV := Lib.hid (hv.below hwW)
  have HBx := Lib.hid hb
  have HB := Lib.hid hwW
  have HW := Lib.hid hW
  have HWs := Lib.hid hWs
  obtain ⟨ad, cap, rfl, _, _⟩ := hv.slice
  unfold boxO at HW
  clear hv hwW hb hW hWs
  go_enter Try.func31, Try.ntmps31
  go_upto_region 1 with fail
  rw [← HW.out]
  clear HW
  go_wp2
  go_loopw [5] (fun t wr => ∃ k : Nat, (k + 1 ≤ q.length ∨ k = 0) ∧ t = .int .i64 ((k : Int) + 1) ∧ (∀ j, j < k → okNext q j = true) ∧ Below W.heap.size W wr) (fun t _ => q.length + 1 - (intOf t).toNat)
  case atStart => exact ⟨0, .inr rfl, rfl, fun j hj => absurd hj (by omega), Below.refl _ _⟩
  case round =>
    obtain ⟨k, hk, rfl, hn, hb⟩ := hrel
    have HN := Lib.hid hn
    clear hn
    by_cases hlt : k + 1 < q.length
    · have hltz : (k : Int) + 1 < (q.length : Int) := by omega
      have hk0 : (0 : Int) ≤ (k : Int) := by omega
      have hk1 : (0 : Int) ≤ (k : Int) + 1 := by omega
      have hk2 : (k : Int) < (q.length : Int) := by omega
      have hw1 : IntKind.i64.wrap ((k : Int) + 1 - 1) = (k : Int) := by rw [IntKind.wrap_i64]; omega
      have hw2 : ((k : Int) + 1).toNat = k + 1 := by omega
      obtain ⟨g, o, rfl, hg, hc⟩ := HV.out.cells hlt
      obtain ⟨x, hx⟩ : ∃ x, q[k]? = some x := ⟨_, List.getElem?_eq_getElem (by omega)⟩
      obtain ⟨y, hy⟩ : ∃ y, q[k + 1]? = some y := ⟨_, List.getElem?_eq_getElem hlt⟩
      obtain ⟨_, x0, x1⟩ := hc.below hg hb k x hx
      obtain ⟨_, y0, y1⟩ := hc.below hg hb (k + 1) y hy
      have hgw : g < wr.heap.size := by have := hb.size; omega
      have hNw : w.heap.size < wr.heap.size := by have := hb.size; have := HWs.out; omega
      have c0 : ∀ p : Quiet.Behind wr, p.world.cell? ⟨g, o + k * 2, none⟩ = some (.int .u64 (x.1 : Int)) := Quiet.cell hgw x0
      have c1 : ∀ p : Quiet.Behind wr, p.world.cell? ⟨g, o + k * 2 + 1, none⟩ = some (.int .i64 x.2) := Quiet.cell hgw x1
      have c2 : ∀ p : Quiet.Behind wr, p.world.cell? ⟨g, o + (k + 1) * 2, none⟩ = some (.int .u64 (y.1 : Int)) := Quiet.cell hgw y0
      have c3 : ∀ p : Quiet.Behind wr, p.world.cell? ⟨g, o + (k + 1) * 2 + 1, none⟩ = some (.int .i64 y.2) := Quiet.cell hgw y1
      have c4 : ∀ p : Quiet.Behind wr, p.world.cell? ⟨w.heap.size, 0, none⟩ = some (.func (.func 20) #[] #[]) := Quiet.cell hNw (cellB ((hb.block w.heap.size (by have := HWs.out; omega)).trans HBx.out) (i := 0) rfl)
      have HO := Lib.hid (okNext_get hx hy)
      have HA := Lib.hid fun wx => ahead_any x y wx
      clear hx hy x0 x1 y0 y1 hc hgw hNw
      obtain ⟨i, p⟩ := x
      obtain ⟨j, r⟩ := y
      unfold val at HA
      simp only at HA c0 c1 c2 c3
      obtain ⟨b, hbb⟩ : ∃ b, ahead (i, p) (j, r) = b := ⟨_, rfl⟩
      rw [hbb] at HA HO
      clear hbb
      cases b with
      | false =>
        have HNo : Hid (nextB q = false) := Lib.hid (nextB_no (by omega) HO.out)
        go_wp2_with fail
        refine Quiet.region (by kernel_rfl) (by kernel_rfl) ?_
        repeat (go_big_quiet_step (first | (go_at_call 20; (with_reducible exact Quiet.calls (HA.out _)))))
        refine wpQuiet_nil ?_
        rintro _ ⟨pq, rfl⟩
        have hq := hb.trans (pq.below.mono hb.size)
        generalize pq.world = ws at hq ⊢
        go_wp2
        go_ret
        exact ⟨by rw [HNo.out]; rfl, HB.out.trans (hq.mono HB.out.size)⟩
      | true =>
        go_wp2_with fail
        refine Quiet.region (by kernel_rfl) (by kernel_rfl) ?_
        repeat (go_big_quiet_step (first | (go_at_call 20; (with_reducible exact Quiet.calls (HA.out _)))))
        refine wpQuiet_nil ?_
        rintro _ ⟨pq, rfl⟩
        have hq := hb.trans (pq.below.mono hb.size)
        generalize pq.world = ws at hq ⊢
        clear c0 c1 c2 c3 c4
        go_wp2
        go_roundw
        case rel =>
          refine ⟨k + 1, .inl (by omega), by go_num, fun j hj => ?_, hq⟩
          by_cases hjk : j < k
          · exact HN.out j hjk
          · obtain rfl : j = k := by omega
            exact HO.out
        case measure => simp [intOf]; omega
    · have hltz : ¬ (k : Int) + 1 < (q.length : Int) := by omega
      have HE : Hid (nextB q = true) := Lib.hid (nextB_yes fun j hj => HN.out j (by omega))
      go_wp2
      go_ret
      exact ⟨by rw [HE.out]; rfl, HB.out.trans (hb.mono HB.out.size)⟩

/-- What Right asks of each place. -/
def okIn (q : List E) (k : Nat) : Bool := match q[k]? with
  | some x => mayB x && decide (placeL q x.1 = (k : Int))
  | none => true
theorem okIn_get {q : List E} {k : Nat} {x : E} (hx : q[k]? = some x) : okIn q k = (mayB x && decide (placeL q x.1 = (k : Int))) := by unfold okIn; rw [hx]
theorem right_parts {q : List E} : rightB q = true ↔ q.length ≤ 32 ∧ nextB q = true ∧ ∀ k, k < q.length → okIn q k = true := by
  rw [rightB_iff, right_iff, nextB_iff]
  constructor
  · rintro ⟨h1, h2, h3, h4⟩
    refine ⟨h1, h3, fun k hk => ?_⟩
    have hx := List.getElem?_eq_getElem hk
    have := h2 _ (List.getElem_mem hk)
    rw [okIn_get hx, h4 k _ hx]
    unfold mayB
    rw [decide_eq_true this.1, decide_eq_true this.2]
    simp
  · rintro ⟨h1, h2, h3⟩
    have at_ : ∀ (k : Nat) (x : E), q[k]? = some x → mayB x = true ∧ placeL q x.1 = (k : Int) := fun k x hx => by
      have := h3 k (List.getElem?_eq_some_iff.1 hx).1
      rw [okIn_get hx, Bool.and_eq_true, decide_eq_true_eq] at this
      exact this
    refine ⟨h1, fun x hx => ?_, h2, fun j x hx => (at_ j x hx).2⟩
    obtain ⟨j, hj⟩ := List.mem_iff_getElem?.1 hx
    have := (at_ j x hj).1
    unfold mayB at this
    simpa using this
theorem right_no {q : List E} (h : ¬ (q.length ≤ 32 ∧ nextB q = true ∧ ∀ k, k < q.length → okIn q k = true)) : rightB q = false := by
  cases hc : rightB q
  · rfl
  · exact absurd (right_parts.1 hc) h

set_option maxHeartbeats 4000000 in
set_option maxRecDepth 100000 in
theorem right_any (v : Value) (q : List E) (w : World) (hv : Row w v q) :
    Calls Try.prog 18 #[v] w fun e w' => e = .returned (.bool (rightB q)) ∧ Below w.heap.size w w' := by
  have hl := hv.len
  have HV := Lib.hid hv
  have HHo := Lib.hid fun wr (h : Below w.heap.size w wr) => holds_any v q wr (hv.below h)
  have HPl := Lib.hid fun wr (h : Below w.heap.size w wr) n => place_any v q n wr (hv.below h)
  obtain ⟨ad, cap, rfl, _, _⟩ := hv.slice
  clear hv
  by_cases h32 : 32 < q.length
  · have hz : (32 : Int) < (q.length : Int) := by omega
    have HE : Hid (rightB q = false) := Lib.hid (right_no fun h => by omega)
    go_enter Try.func18, Try.ntmps18
    go_wp2
    go_ret
    exact ⟨by rw [HE.out]; rfl, Below.refl _ _⟩
  have hz : ¬ (32 : Int) < (q.length : Int) := by omega
  obtain ⟨b, hb⟩ : ∃ b, nextB q = b := ⟨_, rfl⟩
  rw [hb] at HHo
  cases b with
  | false =>
    have HE : Hid (rightB q = false) := Lib.hid (right_no fun h => by rw [h.2.1] at hb; cases hb)
    clear hb
    go_enter Try.func18, Try.ntmps18
    go_wp2_with fail
    (with_reducible refine (turns_any _).mono ?_)
    rintro _ w1 ⟨rfl, hb1⟩
    go_wp2_with fail
    (with_reducible refine (HHo.out _ hb1).mono ?_)
    rintro _ w2 ⟨rfl, hb2⟩
    go_wp2
    go_ret
    exact ⟨by rw [HE.out]; rfl, hb1.trans (hb2.mono hb1.size)⟩
  | true =>
    have HNx := Lib.hid hb
    have h32' : q.length ≤ 32 := by omega
    clear hb
    go_enter Try.func18, Try.ntmps18
    go_wp2_with fail
    (with_reducible refine (turns_any _).mono ?_)
    rintro _ w1 ⟨rfl, hb1⟩
    go_wp2_with fail
    (with_reducible refine (HHo.out _ hb1).mono ?_)
    rintro _ w2 ⟨rfl, hb2⟩
    have hb2 := hb1.trans (hb2.mono hb1.size)
    have HB2 := Lib.hid hb2
    clear hb1 hb2
    go_wp2
    go_loopw [16] (fun t wr => ∃ k : Nat, k ≤ q.length ∧ t = .int .i64 k ∧ (∀ j, j < k → okIn q j = true) ∧ Below w.heap.size w wr) (fun t _ => q.length - (intOf t).toNat)
    case atStart => exact ⟨0, Nat.zero_le _, rfl, fun j hj => absurd hj (by omega), HB2.out⟩
    case round =>
      obtain ⟨k, hk, rfl, hn, hb⟩ := hrel
      have HN := Lib.hid hn
      clear hn
      by_cases hlt : k < q.length
      · have hltz : (k : Int) < (q.length : Int) := by omega
        have hk0 : (0 : Int) ≤ (k : Int) := by omega
        obtain ⟨g, o, rfl, hg, hc⟩ := HV.out.cells hlt
        obtain ⟨x, hx⟩ : ∃ x, q[k]? = some x := ⟨_, List.getElem?_eq_getElem hlt⟩
        obtain ⟨_, x0, x1⟩ := hc.below hg hb k x hx
        have HO := Lib.hid (okIn_get hx)
        obtain ⟨i, p⟩ := x
        have hb3 : Below wr.heap.size wr (wr.alloc (boxU (i, p))) := (Below.refl _ _).alloc (Nat.le_refl _) _
        have HB3 := Lib.hid (hb.trans (hb3.mono hb.size))
        have hbx : (wr.alloc (boxU (i, p))).heap[wr.heap.size]? = some (boxU (i, p)) := heap_alloc_new _ _
        have HX := Lib.hid fun wy (h : Below (wr.alloc (boxU (i, p))).heap.size (wr.alloc (boxU (i, p))) wy) => cellsU ((h.block wr.heap.size (by simp)).trans hbx)
        have HMy := Lib.hid fun wx => may_any (i, p) wx
        obtain ⟨m, hm⟩ : ∃ m, mayB (i, p) = m := ⟨_, rfl⟩
        obtain ⟨pl, hpl⟩ : ∃ pl, placeL q i = pl := ⟨_, rfl⟩
        have HPl1 := Lib.hid fun wr h => HPl.out wr h i
        rw [hm] at HMy HO
        simp only at HO
        rw [hpl] at HPl1 HO
        unfold boxU at HB3 HX
        unfold val at HMy
        simp only at HMy HX x0 x1
        clear hx hc hm hpl hb3 hbx
        cases m with
        | false =>
          have HE : Hid (rightB q = false) := Lib.hid (right_no fun h => by have := h.2.2 k hlt; rw [HO.out] at this; cases this)
          go_wp2_with fail
          (with_reducible refine (HMy.out _).mono ?_)
          rintro _ w4 ⟨rfl, hb4⟩
          go_wp2
          go_ret
          exact ⟨by rw [HE.out]; rfl, HB3.out.trans (hb4.mono HB3.out.size)⟩
        | true =>
          go_wp2_with fail
          (with_reducible refine (HMy.out _).mono ?_)
          rintro _ w4 ⟨rfl, hb4⟩
          obtain ⟨y0, y1⟩ := HX.out w4 hb4
          have hb5 := HB3.out.trans (hb4.mono HB3.out.size)
          have HB5 := Lib.hid hb5
          clear hb4 hb5 x0 x1
          go_wp2_with fail
          (with_reducible refine (HPl1.out _ HB5.out).mono ?_)
          rintro _ w6 ⟨rfl, hb6⟩
          have hb7 := HB5.out.trans (hb6.mono HB5.out.size)
          clear hb6
          by_cases hpk : pl = (k : Int)
          · have hd : (pl != (k : Int)) = false := by simpa using hpk
            have HOk : Hid (okIn q k = true) := Lib.hid (by rw [HO.out, decide_eq_true hpk]; rfl)
            clear hpk
            go_wp2
            go_roundw
            case rel =>
              refine ⟨k + 1, by omega, by go_num, fun j hj => ?_, hb7⟩
              by_cases hjk : j < k
              · exact HN.out j hjk
              · obtain rfl : j = k := by omega
                exact HOk.out
            case measure => simp [intOf]; omega
          · have hd : (pl != (k : Int)) = true := by simpa using hpk
            have HE : Hid (rightB q = false) := Lib.hid (right_no fun h => by have := h.2.2 k hlt; rw [HO.out, decide_eq_false hpk] at this; cases this)
            clear hpk
            go_wp2
            go_ret
            exact ⟨by rw [HE.out]; rfl, hb7⟩
      · have hltz : ¬ (k : Int) < (q.length : Int) := by omega
        have HE : Hid (rightB q = true) := Lib.hid (right_parts.2 ⟨h32', HNx.out, fun j hj => HN.out j (by omega)⟩)
        go_wp2
        go_ret
        exact ⟨by rw [HE.out]; rfl, hb⟩

theorem says : Says where
  ahead := fun a b w _ _ => ahead_any a b w
  push := fun v q x w hv hf hz => push_any v q x w hv hf hz
  take := fun v q i w hv _ hz => take_any v q i w hv hz
  place := fun v q i w hv _ => place_any v q i w hv
  right := fun v q w hv => right_any v q w hv
end Go.Proofs.Ytimaehaaidjokaa.Queue
