/- What sel.rising and sel.isWrong answer of any texts and any term; of memory that was there nothing turns. -/
import Derived.Test.YtcgknkbigbbfdaaDoorSMatch
import Derived.Sort.Walk0
namespace Go.Proofs.YtcgknkbigbbfdaaDoor.Sel
open Go.RowKit Go.Proofs.YtcgknkbigbbfdaaDoor.Texts Go.Proofs.YtcgknkbigbbfdaaDoor.Word Go.Proofs.YtcgknkbigbbfdaaDoor.Label Go.Sort

theorem lessB_irrefl (x : ByteArray) : lessB x x = false := by
  unfold lessB; rw [bytesLess_eq]; simp [List.lt_irrefl]
theorem lessB_asymm {x y : ByteArray} (h : lessB x y = true) : lessB y x = false := by
  cases hh : lessB y x with
  | false => rfl
  | true =>
    unfold lessB at *; rw [bytesLess_eq, decide_eq_true_eq] at h hh
    exact absurd (List.lt_trans h hh) (List.lt_irrefl _)
theorem lessB_total {x y : ByteArray} (h1 : lessB y x = false) (h2 : (x.toList == y.toList) = false) : lessB x y = true := by
  unfold lessB at *; rw [bytesLess_eq, decide_eq_false_iff_not, List.not_lt] at h1; rw [bytesLess_eq, decide_eq_true_eq]
  rcases List.le_iff_lt_or_eq.1 h1 with h | h
  · exact h
  · rw [h] at h2; simp at h2
theorem lessB_ne {x y : ByteArray} (h : lessB x y = true) : (x.toList == y.toList) = false := by
  rw [beq_eq_false_iff_ne]
  intro e
  unfold lessB at h
  rw [e, bytesLess_eq] at h
  simp [List.lt_irrefl] at h

/-- Names that rise. -/
def fitV (ts : List ByteArray) : Bool := ts.all (fun v => right v.data.toList) && risesV ts
theorem risesV_snoc : ∀ (ts : List ByteArray) (y x : ByteArray), risesV (ts ++ [y, x]) = (risesV (ts ++ [y]) && lessB y x)
  | [], y, x => by simp [risesV]
  | [a], y, x => by simp [risesV]
  | a :: b :: r, y, x => by
    have := risesV_snoc (b :: r) y x
    simp only [List.cons_append, risesV] at this ⊢
    rw [this, Bool.and_assoc]
theorem risesV_le : ∀ (ts us : List ByteArray), risesV (ts ++ us) = true → risesV ts = true
  | [], us, _ => rfl
  | [a], us, _ => rfl
  | a :: b :: r, us, h => by
    simp only [List.cons_append, risesV, Bool.and_eq_true] at h ⊢
    exact ⟨h.1, risesV_le (b :: r) us h.2⟩
theorem fitV_take {ts : List ByteArray} (h : fitV ts = true) (k : Nat) : fitV (ts.take k) = true := by
  unfold fitV at *
  rw [Bool.and_eq_true, List.all_eq_true] at *
  exact ⟨fun x hx => h.1 x (List.mem_of_mem_take hx), risesV_le (ts.take k) (ts.drop k) (by rw [List.take_append_drop]; exact h.2)⟩
theorem fitV_zero {ts : List ByteArray} {x : ByteArray} (hx : ts[0]? = some x) : fitV (ts.take 1) = right x.data.toList := by
  unfold fitV
  rw [List.take_add_one, hx]
  simp [risesV]
theorem fitV_more {ts : List ByteArray} {j : Nat} {x y : ByteArray} (hx : ts[j + 1]? = some x) (hy : ts[j]? = some y) (h : fitV (ts.take (j + 1)) = true) : fitV (ts.take (j + 1 + 1)) = (right x.data.toList && lessB y x) := by
  unfold fitV at *
  rw [Bool.and_eq_true] at h
  have e1 : ts.take (j + 1) = ts.take j ++ [y] := by rw [List.take_add_one, hy]; rfl
  have e2 : ts.take (j + 1 + 1) = ts.take j ++ [y, x] := by rw [List.take_add_one, hx, e1]; simp
  rw [e1] at h
  rw [e2, risesV_snoc, h.2]
  have h1 := h.1
  rw [List.all_append] at h1 ⊢
  simp only [Bool.and_eq_true] at h1
  rw [h1.1]
  simp at h1
  simp [h1.2]
theorem fitV_no {ts : List ByteArray} {k : Nat} (h : fitV (ts.take k) = false) : fitV ts = false := by
  cases hh : fitV ts with
  | false => rfl
  | true => rw [fitV_take hh k] at h; cases h

set_option maxHeartbeats 1000000 in
set_option maxRecDepth 100000 in
theorem rising_any (v : Value) (ts : List ByteArray) (w : World) (hv : SRow w v ts) (hl : ts.length ≤ 4611686018427387904) :
    Calls Tryd.prog 62 #[v] w fun e w' => e = .returned (.bool (fitV ts)) ∧ Below w.heap.size w w' := by
  obtain ⟨a, cap, rfl, hcap, hm⟩ := hv.slice
  have HV := Lib.hid hv
  clear hv
  go_enter Tryd.func62, Tryd.ntmps62
  go_wp2
  go_loopw [7] (fun i wr => ∃ k : Nat, k ≤ ts.length ∧ i = .int .i64 k ∧ fitV (ts.take k) = true ∧ Below w.heap.size w wr) (fun i _ => ts.length - (intOf i).toNat)
  case atStart => exact ⟨0, Nat.zero_le _, rfl, rfl, Below.refl _ _⟩
  case round =>
    obtain ⟨k, hk, rfl, hf, hb⟩ := hrel
    have HF := Lib.hid hf
    clear hf
    by_cases hlt : k < ts.length
    · have hltz : (k : Int) < (ts.length : Int) := by omega
      obtain ⟨g, o, rfl, hg, hcell⟩ := (HV.out.below hb).cells hlt
      obtain ⟨x, hx⟩ : ∃ x, ts[k]? = some x := ⟨_, List.getElem?_eq_getElem hlt⟩
      have hc := hcell k x hx
      have HC := Lib.hid hcell
      have HX := Lib.hid hx
      obtain ⟨r, hr⟩ : ∃ r, right x.data.toList = r := ⟨_, rfl⟩
      have HR := Lib.hid hr
      have HW : Hid (∀ W, Calls Tryd.prog 61 #[.string x] W fun e w' => e = .returned (.bool r) ∧ Below W.heap.size W w') := Lib.hid fun W => by rw [← hr]; exact right_any x W
      clear hx hr hcell
      by_cases hkz : k = 0
      · have HN : Hid (fitV (ts.take (k + 1)) = r) := Lib.hid (by subst hkz; rw [fitV_zero HX.out]; exact HR.out)
        have hz0 : decide ((0 : Int) < (k : Int)) = false := decide_eq_false (by omega)
        have hz1 : ¬ (0 : Int) < (k : Int) := by omega
        have hz2 : ¬ 0 < k := by omega
        have hz3 : decide (0 < k) = false := decide_eq_false hz2
        have HKZ := Lib.hid hkz
        clear hkz
        cases r with
        | true =>
          go_wp2_with fail
          with_reducible refine (HW.out _).mono ?_
          rintro e w1 ⟨rfl, hb1⟩
          go_wp2
          go_roundw
          case rel => exact ⟨k + 1, by omega, by go_num, HN.out, grows hb hb1⟩
          case measure => simp [intOf]; omega
        | false =>
          go_wp2_with fail
          with_reducible refine (HW.out _).mono ?_
          rintro e w1 ⟨rfl, hb1⟩
          go_wp2
          go_ret
          exact ⟨by rw [fitV_no HN.out]; rfl, grows hb hb1⟩
      · obtain ⟨j, rfl⟩ : ∃ j, k = j + 1 := ⟨k - 1, by omega⟩
        obtain ⟨y, hy⟩ : ∃ y, ts[j]? = some y := ⟨_, List.getElem?_eq_getElem (by omega)⟩
        have HCY : Hid (∀ W, Below wr.heap.size wr W → W.cell? ⟨g, o + j, none⟩ = some (.string y)) := Lib.hid fun W h => (h.cell (p := ⟨g, o + j, none⟩) hg).trans (HC.out j y hy)
        obtain ⟨b, hbl⟩ : ∃ b, lessB y x = b := ⟨_, rfl⟩
        have HN : Hid (fitV (ts.take (j + 1 + 1)) = (r && b)) := Lib.hid (by rw [fitV_more HX.out hy HF.out, HR.out, hbl])
        have hwr1 : IntKind.i64.wrap (j : Int) = (j : Int) := by rw [IntKind.wrap_i64]; omega
        have hwr2 : IntKind.i64.wrap ((j : Int) + 1 - 1) = (j : Int) := by rw [Int.add_sub_cancel]; exact hwr1
        have hz1 : (0 : Int) < (j : Int) + 1 := by omega
        have hj0 : (0 : Int) ≤ (j : Int) := by omega
        have hjl : (j : Int) < (ts.length : Int) := by omega
        have hjk : (j : Int) + 1 < (ts.length : Int) := by omega
        clear hy hkz
        cases r with
        | false =>
          go_wp2_with fail
          with_reducible refine (HW.out _).mono ?_
          rintro e w1 ⟨rfl, hb1⟩
          go_wp2
          go_ret
          exact ⟨by rw [fitV_no HN.out]; rfl, grows hb hb1⟩
        | true =>
          obtain ⟨c, hcl⟩ : ∃ c, (y.toList == x.toList) = c := ⟨_, rfl⟩
          obtain ⟨d, hdl⟩ : ∃ d, lessB x y = d := ⟨_, rfl⟩
          have hor : Hid ((c || d) = !b) := Lib.hid (by
            cases b with
            | true =>
              rw [lessB_asymm hbl] at hdl
              rw [lessB_ne hbl] at hcl
              rw [← hcl, ← hdl]; rfl
            | false =>
              cases c with
              | true => rfl
              | false =>
                have h1 := lessB_total (x := x) (y := y) hbl (by rw [Bool.beq_comm]; exact hcl)
                rw [h1] at hdl
                rw [← hdl]; rfl)
          have hdl2 : Op.bytesLess x.toList y.toList = d := hdl
          have hbl2 : Op.bytesLess y.toList x.toList = b := hbl
          clear hbl hdl
          go_wp2_with fail
          with_reducible refine (HW.out _).mono ?_
          rintro e w1 ⟨rfl, hb1⟩
          have hcy := HCY.out _ hb1
          cases b with
          | true =>
            have h2 := hor.out
            obtain ⟨rfl, rfl⟩ : c = false ∧ d = false := by revert h2; cases c <;> cases d <;> simp
            clear h2
            go_wp2
            go_roundw
            case rel => exact ⟨j + 1 + 1, by omega, by go_num, HN.out, grows hb hb1⟩
            case measure => simp [intOf]; omega
          | false =>
            have h2 := hor.out
            have H2 : Hid (c = true ∨ d = true) := Lib.hid (by revert h2; cases c <;> cases d <;> simp)
            clear h2
            have HE : Hid (fitV ts = false) := Lib.hid (fitV_no (k := j + 1 + 1) (by rw [HN.out]; rfl))
            cases c with
            | true =>
              cases d with
              | true =>
                go_wp2
                go_ret
                exact ⟨by rw [HE.out]; rfl, grows hb hb1⟩
              | false =>
                go_wp2
                go_ret
                exact ⟨by rw [HE.out]; rfl, grows hb hb1⟩
            | false =>
              obtain rfl : d = true := by rcases H2.out with h | h; cases h; exact h
              go_wp2
              go_ret
              exact ⟨by rw [HE.out]; rfl, grows hb hb1⟩
    · have hltz : ¬ ((k : Int) < (ts.length : Int)) := by omega
      go_wp2
      go_ret
      have := HF.out
      rw [List.take_of_length_le (by omega)] at this
      exact ⟨by rw [this]; rfl, hb⟩
end Go.Proofs.YtcgknkbigbbfdaaDoor.Sel
