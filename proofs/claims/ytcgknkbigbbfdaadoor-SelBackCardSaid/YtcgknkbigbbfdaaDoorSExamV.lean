/- The walk of the chapter's examples. -/
import Derived.Test.YtcgknkbigbbfdaaDoorSExamples
namespace Go.Proofs.YtcgknkbigbbfdaaDoor.Sel
open Go.RowKit Go.Proofs.YtcgknkbigbbfdaaDoor.Texts Go.Proofs.YtcgknkbigbbfdaaDoor.Word Go.Proofs.YtcgknkbigbbfdaaDoor.Forms Go.Proofs.YtcgknkbigbbfdaaDoor.Boxes Go.Proofs.YtcgknkbigbbfdaaDoor.Label

/-- What stands behind the first few terms. -/
theorem trow_drop {w : World} {g o cap n : Nat} {ls : List Tm} (h : TRow w (.slice (some ⟨g, o, none⟩) n cap) ls) (k : Nat) (hk : k < ls.length) : TRow w (.slice (some ⟨g, o + k * 3, none⟩) (ls.length - k) (cap - k)) (ls.drop k) := by
  rcases h with ⟨rfl, _⟩ | ⟨h0, g', o', cap', hsl, hg, hc, hm, hcell⟩
  · simp at hk
  · injection hsl with h1 h2 h3
    injection h1 with h1
    injection h1 with h1 h4 _
    subst h1 h2 h3 h4
    refine .inr ⟨fun e => by have := congrArg List.length e; simp at this; omega, g, o + k * 3, cap - k, by rw [List.length_drop], hg, by rw [List.length_drop]; omega, by omega, fun j t hj => ?_⟩
    rw [List.getElem?_drop] at hj
    have := hcell (k + j) t hj
    rw [show o + k * 3 + j * 3 = o + (k + j) * 3 by omega]
    exact this
theorem fair_drop {ls : List Tm} (h : Fair ls) (k : Nat) : Fair (ls.drop k) := ⟨by rw [List.length_drop]; have := h.1; omega, fun t ht => h.2 t (List.mem_of_mem_drop ht)⟩

set_option maxHeartbeats 4000000 in
set_option maxRecDepth 100000 in
theorem examples_any (w : World) (hE : Err w) : Calls Tryd.prog 9 #[] w fun e w' => e = .returned (.bool true) ∧ Below w.heap.size w w' := by
  have HE : Hid (∀ W, Below w.heap.size w W → Err W) := Lib.hid fun W h => hE.below h
  have HP1 : Hid (∀ W, Err W → Calls Tryd.prog 13 #[.string ⟨#[122, 111, 110, 101, 33, 61, 97, 124, 98, 44, 33, 103, 112, 117, 44, 100, 105, 115, 107]⟩] W (TellsS (some sample) W)) := Lib.hid fun W h => by
    have := parse_any sampleText (by decide) W h
    rw [sample_parse] at this
    exact this
  have HP2 : Hid (∀ W, Err W → Calls Tryd.prog 13 #[.string ⟨#[122, 111, 110, 101, 61, 98, 124, 97]⟩] W (TellsS none W)) := Lib.hid fun W h => by
    have := parse_any wrongText (by decide) W h
    rw [wrong_parse] at this
    exact this
  have HTx : Hid (∀ v W, TRow W v sample → Calls Tryd.prog 24 #[v] W fun e w' => e = .returned (.string ⟨#[122, 111, 110, 101, 33, 61, 97, 124, 98, 44, 33, 103, 112, 117, 44, 100, 105, 115, 107]⟩) ∧ Below W.heap.size W w') := Lib.hid fun v W h => by
    have := text_sel v sample W h fair_sample
    rw [sample_text] at this
    exact this
  have HM1 : Hid (∀ v a W, TRow W v sample → Row W a [(tDisk, ⟨#[115, 115, 100]⟩), (tZone, one1 99)] → Calls Tryd.prog 18 #[v, a] W fun e w' => e = .returned (.bool true) ∧ Below W.heap.size W w') := Lib.hid fun v a W h1 h2 => by
    have := match_any v sample a _ W h1 fair_sample h2 (by decide)
    rw [match_1] at this
    exact this
  have HM2 : Hid (∀ v a W, TRow W v sample → Row W a [(tDisk, ⟨#[115, 115, 100]⟩), (tZone, one1 97)] → Calls Tryd.prog 18 #[v, a] W fun e w' => e = .returned (.bool false) ∧ Below W.heap.size W w') := Lib.hid fun v a W h1 h2 => by
    have := match_any v sample a _ W h1 fair_sample h2 (by decide)
    rw [match_2] at this
    exact this
  have HM3 : Hid (∀ v a W, TRow W v sample → Row W a [(tDisk, one1 120)] → Calls Tryd.prog 18 #[v, a] W fun e w' => e = .returned (.bool true) ∧ Below W.heap.size W w') := Lib.hid fun v a W h1 h2 => by
    have := match_any v sample a _ W h1 fair_sample h2 (by decide)
    rw [match_3] at this
    exact this
  have HM4 : Hid (∀ W, Calls Tryd.prog 18 #[.slice none 0 0, .slice none 0 0] W fun e w' => e = .returned (.bool true) ∧ Below W.heap.size W w') := Lib.hid fun W => match_any _ [] _ [] W (TRow.nil W) ⟨by simp, fun t ht => by simp at ht⟩ (row_none W) (by simp)
  have HPu : Hid (∀ v W, TRow W v (sample.drop 2) → Calls Tryd.prog 22 #[v] W fun e w' => e = .returned (.string ⟨#[1, 4, 100, 105, 115, 107, 0]⟩) ∧ Below W.heap.size W w') := Lib.hid fun v W h => by
    have := put_sel v _ W h (fair_drop fair_sample 2)
    rw [put_1] at this
    exact this
  have HS1 : Hid (∀ v W, TRow W v sample → Calls Tryd.prog 21 #[v, v] W fun e w' => e = .returned (.bool true) ∧ Below W.heap.size W w') := Lib.hid fun v W h => by
    have := same_any v v sample sample W h h fair_sample
    rw [decide_eq_true rfl] at this
    exact this
  have HS2 : Hid (∀ v u W, TRow W v sample → TRow W u (sample.drop 1) → Calls Tryd.prog 21 #[v, u] W fun e w' => e = .returned (.bool false) ∧ Below W.heap.size W w') := Lib.hid fun v u W h1 h2 => by
    have := same_any v u sample _ W h1 h2 fair_sample
    rw [same_1] at this
    exact this
  clear hE
  go_enter Tryd.func9, Tryd.ntmps9
  go_wp2_with fail
  with_reducible refine (HP1.out _ (HE.out _ (Below.refl _ _))).mono ?_
  rintro e w1 ⟨⟨v, rfl, hv⟩, hb1⟩
  have HV1 := Lib.hid hv
  obtain ⟨va, cap, hve, hcap, hm⟩ := hv.slice
  rw [show sample.length = 3 from rfl] at hve
  subst hve
  obtain ⟨g, o, rfl, _, _⟩ := hv.cells (k := 0) (by decide)
  clear hv
  change Hid (TRow w1 (.slice (some ⟨g, o, none⟩) 3 cap) sample) at HV1
  change 3 ≤ cap at hcap
  go_wp2_with fail
  refine (HP2.out _ (HE.out _ hb1)).mono ?_
  rintro e w2 ⟨rfl, hb2⟩
  have HV2 := Lib.hid (HV1.out.below hb2)
  have hb := grows hb1 hb2
  obtain ⟨g', o', he, hg, hcell⟩ := HV2.out.cells (k := 0) (by decide)
  injection he with he
  injection he with he1 he2 _
  subst he1 he2
  obtain ⟨_, c1, s0, c2, hs0⟩ := hcell 0 _ rfl
  obtain ⟨_, c4, _⟩ := hcell 1 _ rfl
  obtain ⟨_, c7, _⟩ := hcell 2 _ rfl
  obtain ⟨sa, sc, rfl, _, _⟩ := hs0.slice
  change w2.cell? ⟨g, o + 0 * 3 + 1, none⟩ = some (.bool true) at c1
  change w2.cell? ⟨g, o + 0 * 3 + 2, none⟩ = some (.slice sa 2 sc) at c2
  change w2.cell? ⟨g, o + 1 * 3 + 1, none⟩ = some (.bool true) at c4
  change w2.cell? ⟨g, o + 2 * 3 + 1, none⟩ = some (.bool false) at c7
  simp only [Nat.zero_mul, Nat.add_zero, Nat.one_mul, show 2 * 3 = 6 from rfl, Nat.add_assoc, Nat.reduceAdd] at c1 c2 c4 c7
  clear hcell hs0 HP1 HP2 hb1 hb2 HE
  go_wp2_with fail
  with_reducible refine (HTx.out _ _ HV2.out).mono ?_
  rintro e w3 ⟨rfl, hb3⟩
  have HV3 := Lib.hid (HV2.out.below hb3)
  have hb := grows hb hb3
  clear hb3 c1 c2 c4 c7
  go_wp2_with fail
  refine (HM1.out _ _ _ (HV3.out.below (grew w3 _)) (row_new w3 [(tDisk, ⟨#[115, 115, 100]⟩), (tZone, one1 99)] _ (by decide))).mono ?_
  rintro e w4 ⟨rfl, hb4⟩
  have HV4 := Lib.hid (HV3.out.below (grows (grew w3 _) hb4))
  have hb := grows hb (grows (grew w3 _) hb4)
  clear hb4
  go_wp2_with fail
  refine (HM2.out _ _ _ (HV4.out.below (grew w4 _)) (row_new w4 [(tDisk, ⟨#[115, 115, 100]⟩), (tZone, one1 97)] _ (by decide))).mono ?_
  rintro e w5 ⟨rfl, hb5⟩
  have HV5 := Lib.hid (HV4.out.below (grows (grew w4 _) hb5))
  have hb := grows hb (grows (grew w4 _) hb5)
  clear hb5
  go_wp2_with fail
  refine (HM3.out _ _ _ (HV5.out.below (grew w5 _)) (row_new w5 [(tDisk, one1 120)] _ (by decide))).mono ?_
  rintro e w6 ⟨rfl, hb6⟩
  have HV6 := Lib.hid (HV5.out.below (grows (grew w5 _) hb6))
  have hb := grows hb (grows (grew w5 _) hb6)
  clear hb6
  go_wp2_with fail
  refine (HM4.out _).mono ?_
  rintro e w7 ⟨rfl, hb7⟩
  have HV7 := Lib.hid (HV6.out.below hb7)
  have hb := grows hb hb7
  clear hb7
  have hcz : (2 : Int) ≤ (cap : Int) := by omega
  have hc2 : (cap == 2) = false := by rw [beq_eq_false_iff_ne]; omega
  have hc2' : ¬ cap = 2 := by omega
  have hc1' : ¬ cap = 1 := by omega
  go_wp2_with fail
  refine (HPu.out _ _ (trow_drop HV7.out 2 (by decide))).mono ?_
  rintro e w8 ⟨rfl, hb8⟩
  have HV8 := Lib.hid (HV7.out.below hb8)
  have hb := grows hb hb8
  clear hb8
  go_wp2_with fail
  refine (HS1.out _ _ HV8.out).mono ?_
  rintro e w9 ⟨rfl, hb9⟩
  have HV9 := Lib.hid (HV8.out.below hb9)
  have hb := grows hb hb9
  clear hb9
  go_wp2_with fail
  refine (HS2.out _ _ _ HV9.out (trow_drop HV9.out 1 (by decide))).mono ?_
  rintro e w10 ⟨rfl, hb10⟩
  have hb := grows hb hb10
  clear hb10
  go_wp2
  go_ret
  exact ⟨rfl, hb⟩
end Go.Proofs.YtcgknkbigbbfdaaDoor.Sel
