/- What sel.isWrong and sel.Right answer of any term and any selector; of memory that was there nothing turns. -/
import Derived.Test.YtcgknkbigbbfdaaDoorSRight
namespace Go.Proofs.YtcgknkbigbbfdaaDoor.Sel
open Go.RowKit Go.Proofs.YtcgknkbigbbfdaaDoor.Texts Go.Proofs.YtcgknkbigbbfdaaDoor.Word Go.Proofs.YtcgknkbigbbfdaaDoor.Label

theorem rightT_eq (t : Tm) : rightT t = (right t.1.data.toList && (decide (t.2.2.length ≤ 4) && fitV t.2.2)) := rfl
/-- A term's lengths. -/
def FairT (t : Tm) : Prop := t.1.size ≤ 4611686018427387904 ∧ t.2.2.length ≤ 4611686018427387904 ∧ ∀ x ∈ t.2.2, x.size ≤ 4611686018427387904

set_option maxHeartbeats 1000000 in
set_option maxRecDepth 100000 in
theorem isWrong_any (v : Value) (t : Tm) (w : World) (hv : TermV w v t) (hl : t.2.2.length ≤ 4611686018427387904) :
    Calls Tryd.prog 39 #[v] w fun e w' => e = .returned (.bool (!rightT t)) ∧ Below w.heap.size w w' := by
  obtain ⟨s, rfl, hs⟩ := hv
  obtain ⟨sa, sc, rfl, _, _⟩ := hs.slice
  rw [rightT_eq]
  obtain ⟨k, n, vs⟩ := t
  simp only at hs hl ⊢
  obtain ⟨r, hr⟩ : ∃ r, right k.data.toList = r := ⟨_, rfl⟩
  have HW : Hid (∀ W, Calls Tryd.prog 61 #[.string k] W fun e w' => e = .returned (.bool r) ∧ Below W.heap.size W w') := Lib.hid fun W => by rw [← hr]; exact right_any k W
  obtain ⟨b, hb⟩ : ∃ b, fitV vs = b := ⟨_, rfl⟩
  have HG : Hid (∀ W, SRow W (.slice sa vs.length sc) vs → Calls Tryd.prog 62 #[.slice sa vs.length sc] W fun e w' => e = .returned (.bool b) ∧ Below W.heap.size W w') := Lib.hid fun W h => by rw [← hb]; exact rising_any _ vs W h hl
  have HS := Lib.hid hs
  rw [hr, hb]
  clear hr hb hs
  cases r with
  | false =>
    go_enter Tryd.func39, Tryd.ntmps39
    go_wp2_with fail
    with_reducible refine (HW.out _).mono ?_
    rintro e w1 ⟨rfl, hb1⟩
    go_wp2
    go_ret
    exact ⟨rfl, grows (grew w _) hb1⟩
  | true =>
    by_cases h4 : vs.length ≤ 4
    · have h4z : ¬ (4 : Int) < (vs.length : Int) := by omega
      have h4n : ¬ 4 < vs.length := by omega
      have h4d : decide (4 < vs.length) = false := decide_eq_false h4n
      have h4e : decide ((4 : Int) < (vs.length : Int)) = false := decide_eq_false h4z
      rw [decide_eq_true h4]
      clear h4
      go_enter Tryd.func39, Tryd.ntmps39
      go_wp2_with fail
      with_reducible refine (HW.out _).mono ?_
      rintro e w1 ⟨rfl, hb1⟩
      obtain ⟨hB, c0, c1, c2⟩ := cell_new hb1
      have hb := grows (grew w _) hb1
      clear hb1
      go_wp2_with fail
      with_reducible refine (HG.out _ (HS.out.below hb)).mono ?_
      rintro e w2 ⟨rfl, hb2⟩
      go_wp2
      go_ret
      exact ⟨by cases b <;> rfl, grows hb hb2⟩
    · have h4z : (4 : Int) < (vs.length : Int) := by omega
      have h4n : 4 < vs.length := by omega
      have h4d : decide (4 < vs.length) = true := decide_eq_true h4n
      have h4e : decide ((4 : Int) < (vs.length : Int)) = true := decide_eq_true h4z
      rw [decide_eq_false h4]
      clear h4
      go_enter Tryd.func39, Tryd.ntmps39
      go_wp2_with fail
      with_reducible refine (HW.out _).mono ?_
      rintro e w1 ⟨rfl, hb1⟩
      obtain ⟨hB, c0, c1, c2⟩ := cell_new hb1
      have hb := grows (grew w _) hb1
      clear hb1
      go_wp2
      go_ret
      exact ⟨rfl, hb⟩

def IndexedT (ls : List Tm) (w : World) (e : Ending) (w' : World) : Prop :=
  ((∃ k : Nat, e = .returned (.int .i64 k) ∧ ls.all rightT = false) ∨ (e = .returned (.int .i64 (-1)) ∧ ls.all rightT = true)) ∧ Below w.heap.size w w'
theorem all_take {ls : List Tm} {k : Nat} {t : Tm} (ht : ls[k]? = some t) (h : (ls.take k).all rightT = true) : (ls.take (k + 1)).all rightT = rightT t := by
  rw [List.take_add_one, ht, List.all_append, h]
  simp
set_option maxHeartbeats 1000000 in
set_option maxRecDepth 100000 in
theorem indexFunc_any (v : Value) (ls : List Tm) (w : World) (hv : TRow w v ls) (hl : Fair ls) :
    Calls Tryd.prog 60 #[v, .func (.func 39) #[] #[]] w (IndexedT ls w) := by
  obtain ⟨a, cap, rfl, hcap, hm⟩ := hv.slice
  have hl1 := hl.1
  have HL := Lib.hid hl
  have HV := Lib.hid hv
  clear hv hl
  go_enter Tryd.func60, Tryd.ntmps60
  go_wp2
  go_loopw [8] (fun i wr => ∃ k : Nat, k ≤ ls.length ∧ i = .int .i64 k ∧ (ls.take k).all rightT = true ∧ Below w.heap.size w wr) (fun i _ => ls.length - (intOf i).toNat)
  case atStart => exact ⟨0, Nat.zero_le _, rfl, rfl, Below.refl _ _⟩
  case round =>
    obtain ⟨k, hk, rfl, hf, hb⟩ := hrel
    have HF := Lib.hid hf
    clear hf
    by_cases hlt : k < ls.length
    · have hltz : (k : Int) < (ls.length : Int) := by omega
      obtain ⟨g, o, rfl, hg, hcell⟩ := (HV.out.below hb).cells hlt
      obtain ⟨t, ht⟩ : ∃ t, ls[k]? = some t := ⟨_, List.getElem?_eq_getElem hlt⟩
      obtain ⟨c0, c1, s, c2, hs⟩ := hcell k t ht
      obtain ⟨sa, sc, rfl, _, _⟩ := hs.slice
      have HT := Lib.hid ht
      obtain ⟨r, hr⟩ : ∃ r, rightT t = r := ⟨_, rfl⟩
      have HR := Lib.hid hr
      have HC : Hid (Calls Tryd.prog 39 #[.agg #[.string t.1, .bool t.2.1, .slice sa t.2.2.length sc]] wr fun e w' => e = .returned (.bool (!r)) ∧ Below wr.heap.size wr w') := Lib.hid (by
        rw [← hr]
        exact isWrong_any _ t wr ⟨_, rfl, hs⟩ (HL.out.2 t (List.mem_of_getElem? ht)).2.1)
      obtain ⟨tk, tn, tv⟩ := t
      clear ht hs hr hcell
      go_wp2_with fail
      with_reducible refine HC.out.mono ?_
      rintro e w1 ⟨rfl, hb1⟩
      have hb' := grows hb hb1
      cases r with
      | true =>
        go_wp2
        go_roundw
        case rel => exact ⟨k + 1, by omega, by go_num, by rw [all_take HT.out HF.out]; exact HR.out, hb'⟩
        case measure => simp [intOf]; omega
      | false =>
        go_wp2
        go_ret
        exact ⟨.inl ⟨k, rfl, List.all_eq_false.2 ⟨_, List.mem_of_getElem? HT.out, by rw [HR.out]; simp⟩⟩, hb'⟩
    · have hltz : ¬ ((k : Int) < (ls.length : Int)) := by omega
      go_wp2
      go_ret
      have := HF.out
      rw [List.take_of_length_le (by omega)] at this
      exact ⟨.inr ⟨rfl, this⟩, hb⟩

set_option maxHeartbeats 1000000 in
set_option maxRecDepth 100000 in
theorem containsFunc_any (v : Value) (ls : List Tm) (w : World) (hv : TRow w v ls) (hl : Fair ls) :
    Calls Tryd.prog 38 #[v, .func (.func 39) #[] #[]] w fun e w' => e = .returned (.bool (!ls.all rightT)) ∧ Below w.heap.size w w' := by
  have HI := Lib.hid (indexFunc_any v ls w hv hl)
  clear hv
  go_enter Tryd.func38, Tryd.ntmps38
  go_wp2_with fail
  with_reducible refine HI.out.mono ?_
  rintro e w' ⟨⟨k, rfl, h⟩ | ⟨rfl, h⟩, hb⟩
  · have HB := Lib.hid h
    clear h
    go_wp2
    go_ret
    exact ⟨by rw [HB.out]; rfl, hb⟩
  · have HB := Lib.hid h
    clear h
    go_wp2
    go_ret
    exact ⟨by rw [HB.out]; rfl, hb⟩

set_option maxHeartbeats 1000000 in
set_option maxRecDepth 100000 in
theorem right_sel (v : Value) (ls : List Tm) (w : World) (hv : TRow w v ls) (hl : Fair ls) :
    Calls Tryd.prog 16 #[v] w fun e w' => e = .returned (.bool (rightS ls)) ∧ Below w.heap.size w w' := by
  unfold rightS
  have HI := Lib.hid (containsFunc_any v ls w hv hl)
  obtain ⟨a, cap, rfl, hcap, hm⟩ := hv.slice
  clear hv
  obtain ⟨r, hr⟩ : ∃ r, ls.all rightT = r := ⟨_, rfl⟩
  rw [hr] at HI ⊢
  clear hr
  by_cases h4 : ls.length ≤ 4
  · have h4z : (ls.length : Int) ≤ 4 := by omega
    have h4d : decide (ls.length ≤ 4) = true := decide_eq_true h4
    go_enter Tryd.func16, Tryd.ntmps16
    go_wp2_with fail
    with_reducible refine HI.out.mono ?_
    rintro e w1 ⟨rfl, hb⟩
    go_wp2
    go_ret
    refine ⟨?_, hb⟩
    rw [h4d]
    cases r <;> rfl
  · have h4z : ¬ (ls.length : Int) ≤ 4 := by omega
    have h4d : decide (ls.length ≤ 4) = false := decide_eq_false h4
    go_enter Tryd.func16, Tryd.ntmps16
    go_wp2
    go_ret
    exact ⟨by first | rfl | (rw [h4d]; rfl) | (simp [h4d]; rfl), Below.refl _ _⟩
end Go.Proofs.YtcgknkbigbbfdaaDoor.Sel
