/- What slices.Equal of texts, sel.sameTerm and sel.Same answer: are they the same? Of memory that was there nothing turns. -/
import Derived.Test.YtcgknkbigbbfdaaDoorSRightV
namespace Go.Proofs.YtcgknkbigbbfdaaDoor.Sel
open Go.RowKit Go.Proofs.YtcgknkbigbbfdaaDoor.Texts Go.Proofs.YtcgknkbigbbfdaaDoor.Word Go.Proofs.YtcgknkbigbbfdaaDoor.Label

theorem toList_inj {a b : ByteArray} (h : a.toList = b.toList) : a = b := by
  rw [Lib.toList_data, Lib.toList_data] at h
  cases a; cases b
  congr 1
  exact Array.toList_inj.1 h
theorem beq_str (a b : ByteArray) : (a.toList == b.toList) = decide (a = b) := by
  by_cases h : a = b
  · subst h; simp
  · rw [decide_eq_false h, beq_eq_false_iff_ne]
    exact fun e => h (toList_inj e)
theorem take_same {α : Type} {xs ys : List α} {k : Nat} {x y : α} (hx : xs[k]? = some x) (hy : ys[k]? = some y) (h : xs.take k = ys.take k) (e : x = y) : xs.take (k + 1) = ys.take (k + 1) := by
  rw [List.take_add_one, List.take_add_one, hx, hy, h, e]
theorem at_same {α : Type} {xs ys : List α} {k : Nat} {x y : α} (hx : xs[k]? = some x) (hy : ys[k]? = some y) (e : x ≠ y) : xs ≠ ys := by
  rintro rfl
  rw [hx] at hy
  exact e (Option.some.inj hy)
theorem below_drewN {B : Nat} {a w : World} (h : Below B a w) : ∀ n, Below B a (w.drewN n)
  | 0 => h
  | n + 1 => (below_drewN h n).drew

set_option maxHeartbeats 1000000 in
set_option maxRecDepth 100000 in
theorem equal_lens (a a' : Option Addr) (n m c c' : Nat) (w : World) (h : n ≠ m) :
    Calls Tryd.prog 67 #[.slice a n c, .slice a' m c'] w fun e w' => e = .returned (.bool false) ∧ w' = w := by
  have hne : ((n : Int) != (m : Int)) = true := by simp; omega
  have hne' : ((n : Int) == (m : Int)) = false := by simp; omega
  go_enter Tryd.func67, Tryd.ntmps67
  go_wp2
  go_ret
  exact ⟨rfl, rfl⟩
set_option maxHeartbeats 1000000 in
set_option maxRecDepth 100000 in
theorem equal_texts (u v : Value) (xs ys : List ByteArray) (w : World) (hu : SRow w u xs) (hv : SRow w v ys) (hl : xs.length ≤ 4611686018427387904) :
    Calls Tryd.prog 67 #[u, v] w fun e w' => e = .returned (.bool (decide (xs = ys))) ∧ Below w.heap.size w w' := by
  obtain ⟨a, cap, rfl, _, _⟩ := hu.slice
  obtain ⟨a', cap', rfl, _, _⟩ := hv.slice
  by_cases hn : xs.length = ys.length
  · have HU := Lib.hid hu
    have HV := Lib.hid hv
    have HN := Lib.hid hn
    have hne : ((xs.length : Int) != (ys.length : Int)) = false := by simp; omega
    have hne' : ((xs.length : Int) == (ys.length : Int)) = true := by simp; omega
    clear hu hv hn
    go_enter Tryd.func67, Tryd.ntmps67
    go_wp2
    go_loopw [13] (fun i wr => ∃ k : Nat, k ≤ xs.length ∧ i = .int .i64 k ∧ xs.take k = ys.take k ∧ Below w.heap.size w wr) (fun i _ => xs.length - (intOf i).toNat)
    case atStart => exact ⟨0, Nat.zero_le _, rfl, rfl, Below.refl _ _⟩
    case round =>
      obtain ⟨k, hk, rfl, hf, hb⟩ := hrel
      have HF := Lib.hid hf
      clear hf
      by_cases hlt : k < xs.length
      · have hltz : (k : Int) < (xs.length : Int) := by omega
        have hltz' : (k : Int) < (ys.length : Int) := by have := HN.out; omega
        have hlt' : k < ys.length := by have := HN.out; omega
        obtain ⟨g, o, rfl, hg, hcell⟩ := (HU.out.below hb).cells hlt
        obtain ⟨g', o', rfl, hg', hcell'⟩ := (HV.out.below hb).cells hlt'
        obtain ⟨x, hx⟩ : ∃ x, xs[k]? = some x := ⟨_, List.getElem?_eq_getElem hlt⟩
        obtain ⟨y, hy⟩ : ∃ y, ys[k]? = some y := ⟨_, List.getElem?_eq_getElem hlt'⟩
        have q1 := Quiet.cell (a := ⟨g, o + k, none⟩) hg (hcell k x hx)
        have q2 := Quiet.cell (a := ⟨g', o' + k, none⟩) hg' (hcell' k y hy)
        have HX := Lib.hid hx
        have HY := Lib.hid hy
        obtain ⟨r, hr⟩ : ∃ r, (x.toList == y.toList) = r := ⟨_, rfl⟩
        have HR : Hid (decide (x = y) = r) := Lib.hid (by rw [← beq_str]; exact hr)
        clear hx hy hcell hcell'
        cases r with
        | true =>
          go_wp2_with fail
          refine Quiet.region (by kernel_rfl) (by kernel_rfl) ?_
          repeat (go_big_quiet_step (fail))
          refine wpQuiet_nil ?_
          rintro _ ⟨pq, rfl⟩
          have hq := grows hb pq.below
          generalize pq.world = wq at hq ⊢
          go_wp2
          go_roundw
          case rel => exact ⟨k + 1, by omega, by go_num, take_same HX.out HY.out HF.out (of_decide_eq_true HR.out), hq⟩
          case measure => simp [intOf]; omega
        | false =>
          go_wp2_with fail
          refine Quiet.region (by kernel_rfl) (by kernel_rfl) ?_
          repeat (go_big_quiet_step (fail))
          refine wpQuiet_nil ?_
          rintro _ ⟨pq, rfl⟩
          have hq := grows hb pq.below
          generalize pq.world = wq at hq ⊢
          go_wp2
          go_ret
          exact ⟨by rw [decide_eq_false (at_same HX.out HY.out (of_decide_eq_false HR.out))]; rfl, hq⟩
      · have hltz : ¬ ((k : Int) < (xs.length : Int)) := by omega
        go_wp2
        go_ret
        have := HF.out
        have hN := HN.out
        rw [List.take_of_length_le (by omega), List.take_of_length_le (by omega)] at this
        exact ⟨by rw [decide_eq_true this]; rfl, hb⟩
  · refine (equal_lens a a' xs.length ys.length cap cap' w hn).mono ?_
    rintro e w' ⟨rfl, rfl⟩
    exact ⟨by rw [decide_eq_false]; intro e; exact hn (by rw [e]), Below.refl _ _⟩

set_option maxHeartbeats 1000000 in
set_option maxRecDepth 100000 in
theorem sameTerm_any (u v : Value) (t s : Tm) (w : World) (hu : TermV w u t) (hv : TermV w v s) (hl : t.2.2.length ≤ 4611686018427387904) :
    Calls Tryd.prog 45 #[u, v] w fun e w' => e = .returned (.bool (decide (t = s))) ∧ Below w.heap.size w w' := by
  obtain ⟨x, rfl, hx⟩ := hu
  obtain ⟨y, rfl, hy⟩ := hv
  obtain ⟨a, cap, rfl, _, _⟩ := hx.slice
  obtain ⟨a', cap', rfl, _, _⟩ := hy.slice
  obtain ⟨k, n, vs⟩ := t
  obtain ⟨k', n', vs'⟩ := s
  simp only at hx hy hl ⊢
  have HE : Hid (∀ W, Below w.heap.size w W → Calls Tryd.prog 67 #[.slice a vs.length cap, .slice a' vs'.length cap'] W fun e w' => e = .returned (.bool (decide (vs = vs'))) ∧ Below W.heap.size W w') := Lib.hid fun W h => equal_texts _ _ vs vs' W (hx.below h) (hy.below h) hl
  have HD : Hid (decide ((k, n, vs) = (k', n', vs')) = ((k.toList == k'.toList) && ((n == n') && decide (vs = vs')))) := Lib.hid (by
    rw [beq_str]
    by_cases h1 : k = k' <;> by_cases h2 : n = n' <;> by_cases h3 : vs = vs' <;> simp [h1, h2, h3])
  rw [HD.out]
  obtain ⟨r1, h1⟩ : ∃ r, (k.toList == k'.toList) = r := ⟨_, rfl⟩
  obtain ⟨r3, h3⟩ : ∃ r, decide (vs = vs') = r := ⟨_, rfl⟩
  rw [h3] at HE
  rw [h1, h3]
  clear HD h3 hx hy
  cases r1 with
  | false =>
    go_enter Tryd.func45, Tryd.ntmps45
    go_wp2
    go_ret
    exact ⟨rfl, grows (grew w _) (grew _ _)⟩
  | true =>
    by_cases hn : n = n'
    · subst hn
      cases n with
      | true =>
        go_enter Tryd.func45, Tryd.ntmps45
        go_wp2_with fail
        with_reducible refine (HE.out _ (grows (grew w _) (grew _ _))).mono ?_
        rintro e w1 ⟨rfl, hb⟩
        go_wp2
        go_ret
        exact ⟨by cases r3 <;> rfl, grows (grows (grew w _) (grew _ _)) hb⟩
      | false =>
        go_enter Tryd.func45, Tryd.ntmps45
        go_wp2_with fail
        with_reducible refine (HE.out _ (grows (grew w _) (grew _ _))).mono ?_
        rintro e w1 ⟨rfl, hb⟩
        go_wp2
        go_ret
        exact ⟨by cases r3 <;> rfl, grows (grows (grew w _) (grew _ _)) hb⟩
    · cases n with
      | true =>
        obtain rfl : n' = false := by cases n'; rfl; exact absurd rfl hn
        clear hn
        go_enter Tryd.func45, Tryd.ntmps45
        go_wp2
        go_ret
        exact ⟨rfl, grows (grew w _) (grew _ _)⟩
      | false =>
        obtain rfl : n' = true := by cases n'; exact absurd rfl hn; rfl
        clear hn
        go_enter Tryd.func45, Tryd.ntmps45
        go_wp2
        go_ret
        exact ⟨rfl, grows (grew w _) (grew _ _)⟩
end Go.Proofs.YtcgknkbigbbfdaaDoor.Sel
