/- What the document's own Put answers of any selector; of memory that was there nothing turns. -/
import Derived.Test.YtbilkeadhflibaaGreatDoorSRefR
import Derived.Test.YtbilkeadhflibaaGreatDoorJL4
import Derived.Test.YtbilkeadhflibaaGreatDoorRefTextV
namespace Go.Proofs.YtbilkeadhflibaaGreatDoor.Sel
open Go.RowKit Go.Proofs.YtbilkeadhflibaaGreatDoor.Texts Go.Proofs.YtbilkeadhflibaaGreatDoor.Word Go.Proofs.YtbilkeadhflibaaGreatDoor.Forms Go.Proofs.YtbilkeadhflibaaGreatDoor.Boxes

set_option maxHeartbeats 8000000 in
set_option maxRecDepth 100000 in
theorem refPutS_any (v : Value) (ls : List Tm) (w : World) (hv : TRow w v ls) (hl : Fair ls) :
    Calls Tryz.prog 56 #[v] w fun e w' => e = .returned (.string (putS ls)) ∧ Below w.heap.size w w' := by
  have HR := Lib.hid (refRightS_any v ls w hv hl)
  obtain ⟨q, hq⟩ : ∃ q, rightS ls = q := ⟨_, rfl⟩
  rw [hq] at HR
  have HV := Lib.hid hv
  obtain ⟨a, cap, rfl, _, _⟩ := hv.slice
  clear hv
  cases q with
  | false =>
    have HE : Hid (putS ls = ⟨#[]⟩) := Lib.hid (putS_no hq)
    clear hq
    go_enter Tryz.func56, Tryz.ntmps56
    go_wp2_with fail
    with_reducible refine HR.out.mono ?_
    rintro e w1 ⟨rfl, hb⟩
    go_wp2
    go_ret
    exact ⟨by rw [HE.out]; rfl, hb⟩
  | true =>
    obtain ⟨h4, hts⟩ := rightS_parts hq
    have HTS := Lib.hid hts
    have HE : Hid (putS ls = str (accS ls ls.length)) := Lib.hid (by unfold putS accS; rw [if_pos hq, List.take_length])
    have HPu : Hid (∀ W, Calls Tryz.prog 55 #[.int .u64 (ls.length : Int)] W fun e w' => e = .returned (.string (str (accS ls 0))) ∧ Below W.heap.size W w') := Lib.hid fun W => by
      have h := Wire.refPut_any ls.length (by omega) W
      rw [wire_str] at h
      simpa [accS] using h
    have HAF : Hid (∀ k t, ls[k]? = some t → str (accS ls k ++ accT t t.2.2.length) = str (accS ls (k + 1))) := Lib.hid fun k t ht => by rw [accS_more ht, accT_all]
    have HAS : Hid (∀ k, (str (accS ls k)).size ≤ 1210) := Lib.hid fun k => by rw [str_len]; exact accS_small hq k
    rw [HE.out]
    obtain ⟨F, hF⟩ : ∃ F : Nat → ByteArray, F = fun k => str (accS ls k) := ⟨_, rfl⟩
    have HFE : Hid (∀ k, F k = str (accS ls k)) := Lib.hid fun k => by rw [hF]
    rw [← HFE.out] at HPu ⊢
    have hw1 : IntKind.u64.wrap (ls.length : Int) = (ls.length : Int) := by rw [IntKind.wrap_u64]; omega
    clear hq hts hF HE
    go_enter Tryz.func56, Tryz.ntmps56
    go_wp2_with fail
    with_reducible refine HR.out.mono ?_
    rintro e w1 ⟨rfl, hb⟩
    go_wp2_with fail
    with_reducible refine (HPu.out _).mono ?_
    rintro e w2 ⟨rfl, hb2⟩
    have hb' := grows hb hb2
    have HV2 := Lib.hid (HV.out.below hb')
    clear hb hb2
    go_wp2_with fail
    go_loopw [3, 4] (fun acc i wr => ∃ j : Nat, j ≤ ls.length ∧ i = .int .i64 j ∧ acc = .string (F j) ∧ Below w2.heap.size w2 wr) (fun _ i _ => ls.length - (intOf i).toNat)
    case atStart => exact ⟨0, Nat.zero_le _, rfl, rfl, Below.refl _ _⟩
    case round =>
      obtain ⟨wa, hwa⟩ : ∃ x, x = wr := ⟨_, rfl⟩
      subst hwa
      obtain ⟨j, hj, rfl, rfl, hbr⟩ := hrel
      by_cases hlt : j < ls.length
      · have hltz : (j : Int) < (ls.length : Int) := by omega
        have hj0 : (0 : Int) ≤ (j : Int) := by omega
        obtain ⟨g, o, rfl, hg, hcell⟩ := (HV2.out.below hbr).cells hlt
        obtain ⟨t, ht⟩ : ∃ t, ls[j]? = some t := ⟨_, List.getElem?_eq_getElem hlt⟩
        obtain ⟨c0, c1, s, c2, hs⟩ := hcell j t ht
        obtain ⟨sa, sc, rfl, _, _⟩ := hs.slice
        have hrt := HTS.out t (List.mem_of_getElem? ht)
        obtain ⟨h1, h2, h3, _⟩ := rightT_parts hrt
        have hk32 := name_size h1
        have H32 : Hid (∀ x ∈ t.2.2, x.size ≤ 32) := Lib.hid fun x hx => name_size (h3 x hx)
        have hn9 : numT t ≤ 9 := by unfold numT; split <;> omega
        have HK : Hid (∀ W, Calls Tryz.prog 53 #[.string t.1] W fun e w' => e = .returned (.string (str (flat t.1))) ∧ Below W.heap.size W w') := Lib.hid fun W => by rw [← text_flat]; exact Wire.refPutText_any t.1 (by omega) W
        have HN : Hid (∀ W, Calls Tryz.prog 55 #[.int .u64 (numT t : Int)] W fun e w' => e = .returned (.string (str (Wire.putL (numT t)))) ∧ Below W.heap.size W w') := Lib.hid fun W => by rw [← wire_str]; exact Wire.refPut_any (numT t) (by omega) W
        have HXS : Hid (∀ x ∈ t.2.2, ∀ W, Calls Tryz.prog 53 #[.string x] W fun e w' => e = .returned (.string (str (flat x))) ∧ Below W.heap.size W w') := Lib.hid fun x hx W => by rw [← text_flat]; exact Wire.refPutText_any x (by have := H32.out x hx; omega) W
        have HS := Lib.hid hs
        have hnum : ∀ b, t.2.1 = b → (numT t : Int) = (t.2.2.length : Int) * 2 + (if b = true then 1 else 0) := fun b hb => by unfold numT; rw [hb]; split <;> simp <;> omega
        obtain ⟨H, hH⟩ : ∃ H : Nat → ByteArray, H = fun m => str (accS ls j ++ accT t m) := ⟨_, rfl⟩
        have hz1 : (str (flat t.1)).size ≤ 42 := by rw [str_len]; exact flat_small hk32
        have hz2 : (str (Wire.putL (numT t))).size ≤ 10 := by rw [str_len]; exact Wire.putL_ten (by omega)
        have hzF : (F j).size ≤ 1210 := by rw [HFE.out]; exact HAS.out j
        have hA0 : Hid (F j ++ str (flat t.1) ++ str (Wire.putL (numT t)) = H 0) := Lib.hid (by rw [HFE.out, hH, str_append, str_append]; unfold accT; simp)
        have HA : Hid (∀ m x, t.2.2[m]? = some x → H m ++ str (flat x) = H (m + 1)) := Lib.hid fun m x hx => by rw [hH]; simp only; rw [accT_more hx, str_append, List.append_assoc]
        have HAH : Hid (∀ m, (H m).size ≤ 1600) := Lib.hid fun m => by
          have e1 := HAS.out j
          rw [str_len] at e1
          have e2 := accT_small hrt m
          rw [hH]; simp only; rw [str_len, List.length_append]; omega
        have HHE : Hid (H t.2.2.length = F (j + 1)) := Lib.hid (by rw [hH, HFE.out]; exact HAF.out j t ht)
        have HC2 : Hid (∀ W, Below wa.heap.size wa W → W.cell? ⟨g, o + j * 3 + 2, none⟩ = some (.slice sa t.2.2.length sc)) := Lib.hid fun W h => (h.cell (p := ⟨g, o + j * 3 + 2, none⟩) hg).trans c2
        obtain ⟨f1, hf1⟩ : ∃ f, f = str (flat t.1) := ⟨_, rfl⟩
        obtain ⟨f2, hf2⟩ : ∃ f, f = str (Wire.putL (numT t)) := ⟨_, rfl⟩
        rw [← hf1] at hA0 HK hz1
        rw [← hf2] at hA0 HN hz2
        obtain ⟨N, hN⟩ : ∃ N : Int, N = (numT t : Int) := ⟨_, rfl⟩
        rw [← hN] at HN hnum
        have hadd1 : ∀ w, Sem.run Tryz.prog (Op.stringOp .add (F j) f1) w = .ok (.string (F j ++ f1)) w := fun w => run_string_add_sum w _ _ (by omega)
        have hadd2 : ∀ w, Sem.run Tryz.prog (Op.stringOp .add (F j ++ f1) f2) w = .ok (.string (H 0)) w := fun w => by rw [← hA0.out]; exact run_string_add_sum w _ _ (by rw [ByteArray.size_append]; omega)
        have hl4 : t.2.2.length ≤ 4 := h2
        clear hf1 hf2 hs h1 h2 h3 hn9 hN ht hcell hrt hH
        obtain ⟨k, n, vs⟩ := t
        simp only at *
        have hv1 : IntKind.u64.wrap (vs.length : Int) = (vs.length : Int) := by rw [IntKind.wrap_u64]; omega
        have hv2 : IntKind.u64.wrap ((vs.length : Int) * 2) = (vs.length : Int) * 2 := by rw [IntKind.wrap_u64]; omega
        have hv3 : IntKind.u64.wrap ((vs.length : Int) * 2 + 1) = (vs.length : Int) * 2 + 1 := by rw [IntKind.wrap_u64]; omega
        have hnn : N = (vs.length : Int) * 2 + (if n = true then 1 else 0) := hnum n rfl
        clear hnum
        cases n with
        | true =>
          simp only [if_true] at hnn
          subst hnn
          go_wp2_with fail
          with_reducible refine (HK.out _).mono ?_
          rintro e w3 ⟨rfl, hb3⟩
          go_wp2_with fail
          with_reducible refine (HN.out _).mono ?_
          rintro e w4 ⟨rfl, hb4⟩
          have hbw := grows hbr (grows hb3 hb4)
          have hgw : g < w4.heap.size := Nat.lt_of_lt_of_le hg (grows hb3 hb4).size
          have c2w := HC2.out _ (grows hb3 hb4)
          have HS4 := Lib.hid (HS.out.below (grows hb3 hb4))
          clear c0 c1 c2 hb3 hb4
          go_wp2_with fail
          go_loopw [3, 6] (fun acc i wr => ∃ m : Nat, m ≤ vs.length ∧ i = .int .i64 m ∧ acc = .string (H m) ∧ Below w4.heap.size w4 wr) (fun _ i _ => vs.length - (intOf i).toNat)
          case atStart => exact ⟨0, Nat.zero_le _, rfl, rfl, Below.refl _ _⟩
          case round =>
            obtain ⟨m, hm, rfl, rfl, hbq⟩ := hrel
            have c2r := (hbq.cell (p := ⟨g, o + j * 3 + 2, none⟩) hgw).trans c2w
            by_cases hml : m < vs.length
            · have hmlz : (m : Int) < (vs.length : Int) := by omega
              have hm0 : (0 : Int) ≤ (m : Int) := by omega
              obtain ⟨g2, o2, rfl, hg2, hcell2⟩ := (HS4.out.below hbq).cells hml
              obtain ⟨x, hx⟩ : ∃ x, vs[m]? = some x := ⟨_, List.getElem?_eq_getElem hml⟩
              have hc := hcell2 m x hx
              have HX := Lib.hid (HXS.out x (List.mem_of_getElem? hx))
              have hax := HA.out m x hx
              have hfs := HAH.out m
              have hfl : (str (flat x)).size ≤ 42 := by rw [str_len]; exact flat_small (H32.out x (List.mem_of_getElem? hx))
              obtain ⟨fx, hfx⟩ : ∃ f, f = str (flat x) := ⟨_, rfl⟩
              rw [← hfx] at HX hax hfl
              have hadd3 : ∀ w, Sem.run Tryz.prog (Op.stringOp .add (H m) fx) w = .ok (.string (H (m + 1))) w := fun w => by rw [← hax]; exact run_string_add_sum w (H m) fx (by omega)
              clear hx hcell2 hfx hax
              go_wp2_with fail
              with_reducible refine (HX.out _).mono ?_
              rintro e w5 ⟨rfl, hb5⟩
              go_wp2
              go_roundw
              case rel => exact ⟨m + 1, by omega, by go_num, rfl, grows hbq hb5⟩
              case measure => simp [intOf]; omega
            · obtain rfl : m = vs.length := by omega
              go_wp2
              go_roundw
              case rel => exact ⟨j + 1, by omega, by go_num, by rw [HHE.out], grows hbw hbq⟩
              case measure => simp [intOf]; omega
        | false =>
          simp only [if_neg (show ¬ (false = true) by simp), Int.add_zero] at hnn
          subst hnn
          go_wp2_with fail
          with_reducible refine (HK.out _).mono ?_
          rintro e w3 ⟨rfl, hb3⟩
          go_wp2_with fail
          with_reducible refine (HN.out _).mono ?_
          rintro e w4 ⟨rfl, hb4⟩
          have hbw := grows hbr (grows hb3 hb4)
          have hgw : g < w4.heap.size := Nat.lt_of_lt_of_le hg (grows hb3 hb4).size
          have c2w := HC2.out _ (grows hb3 hb4)
          have HS4 := Lib.hid (HS.out.below (grows hb3 hb4))
          clear c0 c1 c2 hb3 hb4
          go_wp2_with fail
          go_loopw [3, 6] (fun acc i wr => ∃ m : Nat, m ≤ vs.length ∧ i = .int .i64 m ∧ acc = .string (H m) ∧ Below w4.heap.size w4 wr) (fun _ i _ => vs.length - (intOf i).toNat)
          case atStart => exact ⟨0, Nat.zero_le _, rfl, rfl, Below.refl _ _⟩
          case round =>
            obtain ⟨m, hm, rfl, rfl, hbq⟩ := hrel
            have c2r := (hbq.cell (p := ⟨g, o + j * 3 + 2, none⟩) hgw).trans c2w
            by_cases hml : m < vs.length
            · have hmlz : (m : Int) < (vs.length : Int) := by omega
              have hm0 : (0 : Int) ≤ (m : Int) := by omega
              obtain ⟨g2, o2, rfl, hg2, hcell2⟩ := (HS4.out.below hbq).cells hml
              obtain ⟨x, hx⟩ : ∃ x, vs[m]? = some x := ⟨_, List.getElem?_eq_getElem hml⟩
              have hc := hcell2 m x hx
              have HX := Lib.hid (HXS.out x (List.mem_of_getElem? hx))
              have hax := HA.out m x hx
              have hfs := HAH.out m
              have hfl : (str (flat x)).size ≤ 42 := by rw [str_len]; exact flat_small (H32.out x (List.mem_of_getElem? hx))
              obtain ⟨fx, hfx⟩ : ∃ f, f = str (flat x) := ⟨_, rfl⟩
              rw [← hfx] at HX hax hfl
              have hadd3 : ∀ w, Sem.run Tryz.prog (Op.stringOp .add (H m) fx) w = .ok (.string (H (m + 1))) w := fun w => by rw [← hax]; exact run_string_add_sum w (H m) fx (by omega)
              clear hx hcell2 hfx hax
              go_wp2_with fail
              with_reducible refine (HX.out _).mono ?_
              rintro e w5 ⟨rfl, hb5⟩
              go_wp2
              go_roundw
              case rel => exact ⟨m + 1, by omega, by go_num, rfl, grows hbq hb5⟩
              case measure => simp [intOf]; omega
            · obtain rfl : m = vs.length := by omega
              go_wp2
              go_roundw
              case rel => exact ⟨j + 1, by omega, by go_num, by rw [HHE.out], grows hbw hbq⟩
              case measure => simp [intOf]; omega
      · obtain rfl : j = ls.length := by omega
        go_wp2
        go_ret
        exact ⟨rfl, grows hb' hbr⟩
end Go.Proofs.YtbilkeadhflibaaGreatDoor.Sel
