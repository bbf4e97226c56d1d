/- What sel.Text answers of any selector; of memory that was there nothing turns. -/
import Derived.Test.YtcgknkbigbbfdaaDoorSText
import Derived.Deep.OwnRows
namespace Go.Proofs.YtcgknkbigbbfdaaDoor.Sel
open Go.RowKit Go.Proofs.YtcgknkbigbbfdaaDoor.Texts Go.Proofs.YtcgknkbigbbfdaaDoor.Word Go.Proofs.YtcgknkbigbbfdaaDoor.Label Go.Proofs.YtcgknkbigbbfdaaDoor.Forms

theorem own_below {w w' : World} {B n : Nat} {e : TypeId} {sz : Nat} {v : Value} {xs : List Value} (h : w.ownsRow B e sz v n xs) (hb : Below w.heap.size w w') : w'.ownsRow B e sz v n xs := by
  refine ⟨h.1, ?_⟩
  have h' := h
  rcases h.2 with h0 | ⟨g, cap, cur, hv, h1, h2, h3⟩
  · exact .inl h0
  · refine .inr ⟨g, cap, cur, hv, h1, ?_, h3⟩
    rw [hb.block g (h'.lt g (by rw [hv]; rfl)).2]
    exact h2
theorem infoS : (Tryd.prog.info? 9).map (fun i => (i.zero, i.size, i.bytes)) = some (some (.string ByteArray.empty), 1, 16) := by kernel_rfl
/-- The shown terms. -/
def shown (ls : List Tm) : List ByteArray := ls.map fun t => str (showT t)
theorem shown_data (ls : List Tm) : (shown ls).map (fun t => t.data.toList) = ls.map showT := by
  unfold shown
  rw [List.map_map]
  apply List.map_congr_left
  intro t _
  exact str_toList _
theorem shown_len (ls : List Tm) : (shown ls).length = ls.length := by simp [shown]
theorem glue_show (c : UInt8) : ∀ (ls : List Tm), (∀ t ∈ ls, rightT t = true) → (glueC c (ls.map showT)).length ≤ 201 * ls.length
  | [], _ => by simp [glueC]
  | [a], h => by
    have := show_small (h a (List.mem_cons_self ..))
    simp only [List.map_cons, List.map_nil, glueC, List.length_cons, List.length_nil]
    omega
  | a :: b :: r, h => by
    have h1 := show_small (h a (List.mem_cons_self ..))
    have h2 := glue_show c (b :: r) (fun y hy => h y (List.mem_cons_of_mem _ hy))
    simp only [List.map_cons, glueC, List.length_append, List.length_cons] at h2 ⊢
    omega

set_option maxHeartbeats 2000000 in
set_option maxRecDepth 100000 in
theorem text_sel (v : Value) (ls : List Tm) (w : World) (hv : TRow w v ls) (hl : Fair ls) :
    Calls Tryd.prog 24 #[v] w fun e w' => e = .returned (.string (textS ls)) ∧ Below w.heap.size w w' := by
  obtain ⟨i0, hi, hz0, hz1, hz2⟩ := info_parts infoS
  have HR := Lib.hid (right_sel v ls w hv hl)
  obtain ⟨q, hq⟩ : ∃ q, rightS ls = q := ⟨_, rfl⟩
  rw [hq] at HR
  have HV := Lib.hid hv
  obtain ⟨a, cap, rfl, _, _⟩ := hv.slice
  clear hv
  cases q with
  | false =>
    have HE : Hid (textS ls = ⟨#[63]⟩) := Lib.hid (by unfold textS; rw [if_neg (by rw [hq]; simp)])
    clear hq
    go_enter Tryd.func24, Tryd.ntmps24
    go_wp2_with fail
    with_reducible refine HR.out.mono ?_
    rintro e w1 ⟨rfl, hb⟩
    go_wp2
    go_ret
    exact ⟨by rw [HE.out]; rfl, hb⟩
  | true =>
    by_cases h0 : ls = []
    · subst h0
      have HE : Hid (textS [] = ⟨#[45]⟩) := Lib.hid rfl
      go_enter Tryd.func24, Tryd.ntmps24
      go_wp2_with fail
      refine HR.out.mono ?_
      rintro e w1 ⟨rfl, hb⟩
      go_wp2
      go_ret
      exact ⟨by rw [HE.out]; rfl, hb⟩
    · obtain ⟨h4, hts⟩ := rightS_parts hq
      have HTS := Lib.hid hts
      have HE : Hid (textS ls = str (glueC 44 (ls.map showT))) := Lib.hid (by unfold textS; rw [if_pos hq, if_neg h0])
      have hlen := List.length_pos_iff.2 h0
      have hn0 : ((ls.length : Int) == 0) = false := by rw [beq_eq_false_iff_ne]; omega
      have HJ : Hid (∀ v W, SRow W v (shown ls) → Calls Tryd.prog 51 #[v, .string ⟨#[44]⟩] W fun e w' => e = .returned (.string (textS ls)) ∧ Below W.heap.size W w') := Lib.hid fun v W h => by
        have hg := glue_show 44 ls hts
        have := join_any 44 v (shown ls) W h (fun e => by have := shown_len ls; rw [e] at this; simp at this; omega) (by rw [shown_data]; omega) (by rw [shown_len]; omega)
        rw [shown_data] at this
        rw [HE.out]
        exact this
      clear hq hts h0
      obtain ⟨TX, hTX⟩ : ∃ x, x = textS ls := ⟨_, rfl⟩
      rw [← hTX] at HJ ⊢
      clear hTX HE
      go_enter Tryd.func24, Tryd.ntmps24
      go_wp2_with fail
      with_reducible refine HR.out.mono ?_
      rintro e w1 ⟨rfl, hb⟩
      have HV1 := Lib.hid (HV.out.below hb)
      go_wp2_with fail
      go_loopw [3, 14] (fun t i wr => ∃ k : Nat, k ≤ ls.length ∧ i = .int .i64 k ∧ wr.ownsRow w1.heap.size 9 1 t k (svals (shown (ls.take k))) ∧ Below w1.heap.size w1 wr) (fun _ i _ => ls.length - (intOf i).toNat)
      case atStart => exact ⟨0, Nat.zero_le _, rfl, World.ownsRow_nil _ _ _ _, Below.refl _ _⟩
      case round =>
        obtain ⟨k, hk, rfl, hown, hbr⟩ := hrel
        by_cases hlt : k < ls.length
        · have hltz : (k : Int) < (ls.length : Int) := by omega
          obtain ⟨g, o, rfl, hg, hcell⟩ := (HV1.out.below hbr).cells hlt
          obtain ⟨t, ht⟩ : ∃ t, ls[k]? = some t := ⟨_, List.getElem?_eq_getElem hlt⟩
          obtain ⟨c0, c1, s, c2, hs⟩ := hcell k t ht
          obtain ⟨sa, sc, rfl, _, _⟩ := hs.slice
          have hrt := HTS.out t (List.mem_of_getElem? ht)
          have HX : Hid (∀ W, Below wr.heap.size wr W → Calls Tryd.prog 50 #[.agg #[.string t.1, .bool t.2.1, .slice sa t.2.2.length sc]] W fun e w' => e = .returned (.string (str (showT t))) ∧ Below W.heap.size W w') := Lib.hid fun W h => termText_any _ t W ⟨_, rfl, hs.below h⟩ hrt
          have HT : Hid (shown (ls.take (k + 1)) = shown (ls.take k) ++ [str (showT t)]) := Lib.hid (by rw [List.take_add_one, ht]; simp [shown])
          obtain ⟨fx, hfx⟩ : ∃ f, f = str (showT t) := ⟨_, rfl⟩
          rw [← hfx] at HX HT
          obtain ⟨tk, tn, tv⟩ := t
          clear ht hcell hfx hrt hs
          go_wp2_with fail
          with_reducible refine (HX.out _ (grew wr _)).mono ?_
          rintro e w3 ⟨rfl, hb3⟩
          have hb' := grows (grew wr _) hb3
          have hbA := hbr.trans (hb'.mono hbr.size)
          have hownA := own_below hown hb'
          clear hown hb3
          go_wp2_with (at_builtin; refine wpList_append_own _ rfl _ _ 49 rfl w1.heap.size 9 i0 (.string ByteArray.empty) 1 16 Tryd.underlying49 hi hz0 hz1 hz2 rfl (by decide) _ _ _ rfl (hownA.alloc _) ⟨w3.heap.size, 0, none⟩ 1 1 [.string fx] rfl rfl ?c1 ?c2 ?c3 ?c4 ?c5 ?_)
          case c1 => exact cell_one_new _ _ _
          case c2 => first | rfl | (intro u hu; simp at hu; subst hu; rfl)
          case c3 => unfold maxLen; omega
          case c4 => omega
          case c5 => have := hbA.size; simp; omega
          intro v' w4 hown' hgrow _
          have hown4 : w4.ownsRow w1.heap.size 9 1 v' (k + 1) (svals (shown (ls.take (k + 1)))) := by rw [HT.out, svals_snoc]; exact hown'
          have hb4 : Below w1.heap.size w1 w4 := (hbA.alloc hbA.size _).grown hgrow (by have := hbA.size; simp; omega) (fun k hk => (hownA.lt k hk).1)
          clear hown' hgrow hownA hbA hb'
          go_wp2
          go_roundw
          case rel => exact ⟨k + 1, by omega, by go_num, hown4, hb4⟩
          case measure => simp [intOf]; omega
        · have hkn : k = ls.length := by omega
          have hltz : ¬ ((k : Int) < (ls.length : Int)) := by omega
          have HJ2 : Hid (Calls Tryd.prog 51 #[u3, .string ⟨#[44]⟩] wr fun e w' => e = .returned (.string TX) ∧ Below wr.heap.size wr w') := Lib.hid (by
            rw [hkn, List.take_length] at hown
            exact HJ.out _ wr (own_srow (T := 9) (by rw [shown_len]; exact hown)))
          clear hown hkn
          go_wp2_with fail
          with_reducible refine HJ2.out.mono ?_
          rintro e w5 ⟨rfl, hb5⟩
          go_wp2
          go_ret
          exact ⟨rfl, grows (grows hb hbr) hb5⟩
end Go.Proofs.YtcgknkbigbbfdaaDoor.Sel
