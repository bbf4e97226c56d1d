/- What sel.Same answers of any two selectors: are they the same? Of memory that was there nothing turns. -/
import Derived.Test.YtcgknkbigbbfdaaDoorSSame
namespace Go.Proofs.YtcgknkbigbbfdaaDoor.Sel
open Go.RowKit Go.Proofs.YtcgknkbigbbfdaaDoor.Texts Go.Proofs.YtcgknkbigbbfdaaDoor.Word Go.Proofs.YtcgknkbigbbfdaaDoor.Label

set_option maxHeartbeats 1000000 in
set_option maxRecDepth 100000 in
theorem equalFunc_lens (a a' : Option Addr) (n m c c' : Nat) (f : Value) (w : World) (h : n ≠ m) :
    Calls Tryd.prog 44 #[.slice a n c, .slice a' m c', f] w fun e w' => e = .returned (.bool false) ∧ w' = w := by
  have hne : ((n : Int) != (m : Int)) = true := by simp; omega
  have hne' : ((n : Int) == (m : Int)) = false := by simp; omega
  go_enter Tryd.func44, Tryd.ntmps44
  go_wp2
  go_ret
  exact ⟨rfl, rfl⟩
set_option maxHeartbeats 1000000 in
set_option maxRecDepth 100000 in
theorem equalFunc_any (u v : Value) (xs ys : List Tm) (w : World) (hu : TRow w u xs) (hv : TRow w v ys) (hl : Fair xs) :
    Calls Tryd.prog 44 #[u, v, .func (.func 45) #[] #[]] w fun e w' => e = .returned (.bool (decide (xs = ys))) ∧ Below w.heap.size w w' := by
  obtain ⟨a, cap, rfl, _, _⟩ := hu.slice
  obtain ⟨a', cap', rfl, _, _⟩ := hv.slice
  have hl1 := hl.1
  by_cases hn : xs.length = ys.length
  · have HU := Lib.hid hu
    have HV := Lib.hid hv
    have HN := Lib.hid hn
    have HL := Lib.hid hl
    have hne : ((xs.length : Int) != (ys.length : Int)) = false := by simp; omega
    have hne' : ((xs.length : Int) == (ys.length : Int)) = true := by simp; omega
    clear hu hv hn hl
    go_enter Tryd.func44, Tryd.ntmps44
    go_wp2
    go_loopw [17] (fun i wr => ∃ k : Nat, k ≤ xs.length ∧ i = .int .i64 k ∧ xs.take k = ys.take k ∧ Below w.heap.size w wr) (fun i _ => xs.length - (intOf i).toNat)
    case atStart => exact ⟨0, Nat.zero_le _, rfl, rfl, Below.refl _ _⟩
    case round =>
      obtain ⟨k, hk, rfl, hf, hb⟩ := hrel
      have HF := Lib.hid hf
      clear hf
      by_cases hlt : k < xs.length
      · have hltz : (k : Int) < (xs.length : Int) := by omega
        have hltz' : (k : Int) < (ys.length : Int) := by have := HN.out; omega
        have hlt' : k < ys.length := by have := HN.out; omega
        obtain ⟨g, o, rfl, hg, hcell⟩ := (HU.out.below hb).cells hlt
        obtain ⟨g', o', rfl, hg', hcell'⟩ := (HV.out.below hb).cells hlt'
        obtain ⟨x, hx⟩ : ∃ x, xs[k]? = some x := ⟨_, List.getElem?_eq_getElem hlt⟩
        obtain ⟨y, hy⟩ : ∃ y, ys[k]? = some y := ⟨_, List.getElem?_eq_getElem hlt'⟩
        obtain ⟨c0, c1, s, c2, hs⟩ := hcell k x hx
        obtain ⟨sa, sc, rfl, _, _⟩ := hs.slice
        obtain ⟨d0, d1, s', d2, hs'⟩ := hcell' k y hy
        obtain ⟨sa', sc', rfl, _, _⟩ := hs'.slice
        have HX := Lib.hid hx
        have HY := Lib.hid hy
        obtain ⟨r, hr⟩ : ∃ r, decide (x = y) = r := ⟨_, rfl⟩
        have HR := Lib.hid hr
        have HC : Hid (∀ W, Below wr.heap.size wr W → Calls Tryd.prog 45 #[.agg #[.string x.1, .bool x.2.1, .slice sa x.2.2.length sc], .agg #[.string y.1, .bool y.2.1, .slice sa' y.2.2.length sc']] W fun e w' => e = .returned (.bool r) ∧ Below W.heap.size W w') := Lib.hid fun W h => by
          rw [← hr]
          exact sameTerm_any _ _ x y W ⟨_, rfl, hs.below h⟩ ⟨_, rfl, hs'.below h⟩ (HL.out.2 x (List.mem_of_getElem? hx)).2.1
        obtain ⟨xk, xn, xv⟩ := x
        obtain ⟨yk, yn, yv⟩ := y
        have hgn : g' ≠ wr.heap.size := by omega
        clear hx hy hs hs' hr hcell hcell'
        go_wp2_with fail
        with_reducible refine (HC.out _ (grows (grew wr _) (grew _ _))).mono ?_
        rintro e w1 ⟨rfl, hb1⟩
        have hb' := grows hb (grows (grows (grew wr _) (grew _ _)) hb1)
        cases r with
        | true =>
          go_wp2
          go_roundw
          case rel => exact ⟨k + 1, by omega, by go_num, take_same HX.out HY.out HF.out (of_decide_eq_true HR.out), hb'⟩
          case measure => simp [intOf]; omega
        | false =>
          go_wp2
          go_ret
          exact ⟨by rw [decide_eq_false (at_same HX.out HY.out (of_decide_eq_false HR.out))]; rfl, hb'⟩
      · have hltz : ¬ ((k : Int) < (xs.length : Int)) := by omega
        go_wp2
        go_ret
        have := HF.out
        have hN := HN.out
        rw [List.take_of_length_le (by omega), List.take_of_length_le (by omega)] at this
        exact ⟨by rw [decide_eq_true this]; rfl, hb⟩
  · refine (equalFunc_lens a a' xs.length ys.length cap cap' _ w hn).mono ?_
    rintro e w' ⟨rfl, rfl⟩
    exact ⟨by rw [decide_eq_false]; intro e; exact hn (by rw [e]), Below.refl _ _⟩

set_option maxHeartbeats 1000000 in
set_option maxRecDepth 100000 in
theorem same_any (u v : Value) (xs ys : List Tm) (w : World) (hu : TRow w u xs) (hv : TRow w v ys) (hl : Fair xs) :
    Calls Tryd.prog 21 #[u, v] w fun e w' => e = .returned (.bool (decide (xs = ys))) ∧ Below w.heap.size w w' := by
  have HE := Lib.hid (equalFunc_any u v xs ys w hu hv hl)
  clear hu hv
  go_enter Tryd.func21, Tryd.ntmps21
  go_wp2_with fail
  with_reducible refine HE.out.mono ?_
  rintro e w1 ⟨rfl, hb⟩
  go_wp2
  go_ret
  exact ⟨rfl, hb⟩
end Go.Proofs.YtcgknkbigbbfdaaDoor.Sel
