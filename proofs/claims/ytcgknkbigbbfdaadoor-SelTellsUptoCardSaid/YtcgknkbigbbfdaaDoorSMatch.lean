/- What sel.Match answers of any selector and any labels; of memory that was there nothing turns. -/
import Derived.Test.YtcgknkbigbbfdaaDoorSHolds
namespace Go.Proofs.YtcgknkbigbbfdaaDoor.Sel
open Go.RowKit Go.Proofs.YtcgknkbigbbfdaaDoor.Texts Go.Proofs.YtcgknkbigbbfdaaDoor.Word Go.Proofs.YtcgknkbigbbfdaaDoor.Label

/-- How long a selector may be for the walks here. -/
def Fair (ls : List Tm) : Prop := ls.length ≤ 4611686018427387904 ∧ ∀ t ∈ ls, t.1.size ≤ 4611686018427387904 ∧ t.2.2.length ≤ 4611686018427387904 ∧ ∀ x ∈ t.2.2, x.size ≤ 4611686018427387904
theorem matchS_take {f : ByteArray → Option ByteArray} {ls : List Tm} {k : Nat} {t : Tm} (ht : ls[k]? = some t) (h : matchS f (ls.take k) = true) : matchS f (ls.take (k + 1)) = holdsT (f t.1) t := by
  unfold matchS at *
  rw [List.take_add_one, ht, List.all_append, h]
  simp
theorem matchS_no {f : ByteArray → Option ByteArray} {ls : List Tm} {k : Nat} {t : Tm} (ht : ls[k]? = some t) (h : holdsT (f t.1) t = false) : matchS f ls = false := by
  unfold matchS
  rw [List.all_eq_false]
  exact ⟨t, List.mem_of_getElem? ht, by rw [h]; simp⟩

set_option maxHeartbeats 1000000 in
set_option maxRecDepth 100000 in
theorem match_any (v : Value) (ls : List Tm) (pv : Value) (ps : List Pr) (w : World) (hv : TRow w v ls) (hl : Fair ls) (hp : Row w pv ps) (hpl : ps.length ≤ 4611686018427387904) :
    Calls Tryd.prog 18 #[v, pv] w fun e w' => e = .returned (.bool (matchS (findL ps) ls)) ∧ Below w.heap.size w w' := by
  obtain ⟨a, cap, rfl, hcap, hm⟩ := hv.slice
  have hl1 := hl.1
  have HL := Lib.hid hl
  have HV := Lib.hid hv
  have HP := Lib.hid hp
  clear hv hp hl
  go_enter Tryd.func18, Tryd.ntmps18
  go_wp2
  go_loopw [9] (fun i wr => ∃ k : Nat, k ≤ ls.length ∧ i = .int .i64 k ∧ matchS (findL ps) (ls.take k) = true ∧ Below w.heap.size w wr) (fun i _ => ls.length - (intOf i).toNat)
  case atStart => exact ⟨0, Nat.zero_le _, rfl, rfl, Below.refl _ _⟩
  case round =>
    obtain ⟨k, hk, rfl, hf, hb⟩ := hrel
    have HF := Lib.hid hf
    clear hf
    by_cases hlt : k < ls.length
    · have hltz : (k : Int) < (ls.length : Int) := by omega
      obtain ⟨g, o, rfl, hg, hcell⟩ := (HV.out.below hb).cells hlt
      obtain ⟨t, ht⟩ : ∃ t, ls[k]? = some t := ⟨_, List.getElem?_eq_getElem hlt⟩
      obtain ⟨c0, c1, s, c2, hs⟩ := hcell k t ht
      obtain ⟨sa, sc, rfl, _, _⟩ := hs.slice
      have HS := Lib.hid hs
      have HT := Lib.hid ht
      obtain ⟨r, hr⟩ : ∃ r, holdsT (findL ps t.1) t = r := ⟨_, rfl⟩
      have HR := Lib.hid hr
      have HC : Hid (∀ W, SRow W (.slice sa t.2.2.length sc) t.2.2 → Row W pv ps → Calls Tryd.prog 41 #[.agg #[.string t.1, .bool t.2.1, .slice sa t.2.2.length sc], pv] W fun e w' => e = .returned (.bool r) ∧ Below W.heap.size W w') := Lib.hid fun W h1 h2 => by
        rw [← hr]
        exact holds_term _ t pv ps W ⟨_, rfl, h1⟩ (HL.out.2 t (List.mem_of_getElem? ht)).2.1 h2 hpl
      obtain ⟨tk, tn, tv⟩ := t
      clear ht hs hr hcell
      go_wp2_with fail
      with_reducible refine (HC.out _ (HS.out.below (grew wr _)) (HP.out.below (grows hb (grew wr _)))).mono ?_
      rintro e w1 ⟨rfl, hb1⟩
      have hb' := grows hb (grows (grew wr _) hb1)
      cases r with
      | true =>
        go_wp2
        go_roundw
        case rel => exact ⟨k + 1, by omega, by go_num, by rw [matchS_take HT.out HF.out]; exact HR.out, hb'⟩
        case measure => simp [intOf]; omega
      | false =>
        go_wp2
        go_ret
        exact ⟨by rw [matchS_no HT.out HR.out]; rfl, hb'⟩
    · have hltz : ¬ ((k : Int) < (ls.length : Int)) := by omega
      go_wp2
      go_ret
      have := HF.out
      rw [List.take_of_length_le (by omega)] at this
      exact ⟨by rw [this]; rfl, hb⟩
end Go.Proofs.YtcgknkbigbbfdaaDoor.Sel
