/- What sel.Put answers of any selector; of memory that was there nothing turns. -/
import Derived.Test.YtcgknkbigbbfdaaDoorSPut
namespace Go.Proofs.YtcgknkbigbbfdaaDoor.Sel
open Go.RowKit Go.Proofs.YtcgknkbigbbfdaaDoor.Texts Go.Proofs.YtcgknkbigbbfdaaDoor.Word Go.Proofs.YtcgknkbigbbfdaaDoor.Label Go.Proofs.YtcgknkbigbbfdaaDoor.Forms

/-- The form of a selector's first terms. -/
def accS (ls : List Tm) (k : Nat) : List UInt8 := Wire.putL ls.length ++ (ls.take k).flatMap formT
theorem accS_more {ls : List Tm} {k : Nat} {t : Tm} (ht : ls[k]? = some t) : accS ls (k + 1) = accS ls k ++ formT t := by
  unfold accS
  rw [List.take_add_one, ht]
  simp
theorem form_small {t : Tm} (ht : rightT t = true) : (formT t).length ≤ 300 := by rw [← accT_all]; exact accT_small ht _
theorem forms_small : ∀ (ls : List Tm), (∀ t ∈ ls, rightT t = true) → (ls.flatMap formT).length ≤ 300 * ls.length
  | [], _ => by simp
  | t :: ls, h => by
    have h1 := form_small (h t (List.mem_cons_self ..))
    have h2 := forms_small ls (fun x hx => h x (List.mem_cons_of_mem _ hx))
    rw [List.flatMap_cons, List.length_append, List.length_cons]
    omega
theorem accS_small {ls : List Tm} (h : rightS ls = true) (k : Nat) : (accS ls k).length ≤ 1210 := by
  obtain ⟨h4, ht⟩ := rightS_parts h
  have a1 := Wire.putL_ten (u := ls.length) (by omega)
  have a2 := forms_small (ls.take k) (fun t htk => ht t (List.mem_of_mem_take htk))
  have a3 : (ls.take k).length ≤ 4 := by rw [List.length_take]; omega
  unfold accS
  rw [List.length_append]
  omega
theorem putS_small (ls : List Tm) : (putS ls).size ≤ 1210 := by
  unfold putS
  split
  · rename_i h
    rw [str_len]
    have := accS_small h ls.length
    unfold accS at this
    rwa [List.take_length] at this
  · decide

set_option maxHeartbeats 1000000 in
set_option maxRecDepth 100000 in
theorem put_sel (v : Value) (ls : List Tm) (w : World) (hv : TRow w v ls) (hl : Fair ls) :
    Calls Tryd.prog 22 #[v] w fun e w' => e = .returned (.string (putS ls)) ∧ Below w.heap.size w w' := by
  have HR := Lib.hid (right_sel v ls w hv hl)
  obtain ⟨q, hq⟩ : ∃ q, rightS ls = q := ⟨_, rfl⟩
  rw [hq] at HR
  have HV := Lib.hid hv
  obtain ⟨a, cap, rfl, _, _⟩ := hv.slice
  clear hv
  cases q with
  | false =>
    have HE : Hid (putS ls = ⟨#[]⟩) := Lib.hid (putS_no hq)
    clear hq
    go_enter Tryd.func22, Tryd.ntmps22
    go_wp2_with fail
    with_reducible refine HR.out.mono ?_
    rintro e w1 ⟨rfl, hb⟩
    go_wp2
    go_ret
    exact ⟨by rw [HE.out]; rfl, hb⟩
  | true =>
    obtain ⟨h4, hts⟩ := rightS_parts hq
    have HTS := Lib.hid hts
    have HE : Hid (putS ls = str (accS ls ls.length)) := Lib.hid (by unfold putS accS; rw [if_pos hq, List.take_length])
    have HPu : Hid (∀ W, Calls Tryd.prog 46 #[.int .u64 (ls.length : Int)] W fun e w' => e = .returned (.string (str (accS ls 0))) ∧ Below W.heap.size W w') := Lib.hid fun W => by
      have h := Wire.put_any ls.length (by omega) W
      rw [wire_str] at h
      simpa [accS] using h
    have HA : Hid (∀ k t, ls[k]? = some t → str (accS ls k) ++ str (formT t) = str (accS ls (k + 1))) := Lib.hid fun k t ht => by rw [accS_more ht, str_append]
    have HAS : Hid (∀ k, (str (accS ls k)).size ≤ 1210) := Lib.hid fun k => by rw [str_len]; exact accS_small hq k
    rw [HE.out]
    obtain ⟨F, hF⟩ : ∃ F : Nat → ByteArray, F = fun k => str (accS ls k) := ⟨_, rfl⟩
    change Calls Tryd.prog _ _ w fun e w' => e = .returned (.string ((fun k => str (accS ls k)) ls.length)) ∧ _
    change Hid (∀ W, Calls _ _ _ W fun e w' => e = .returned (.string ((fun k => str (accS ls k)) 0)) ∧ _) at HPu
    change Hid (∀ k x, _ → (fun k => str (accS ls k)) k ++ _ = (fun k => str (accS ls k)) (k + 1)) at HA
    change Hid (∀ k, ((fun k => str (accS ls k)) k).size ≤ 1210) at HAS
    rw [← hF] at HPu HA HAS ⊢
    have hw1 : IntKind.u64.wrap (ls.length : Int) = (ls.length : Int) := by rw [IntKind.wrap_u64]; omega
    clear hq hts hF HE
    go_enter Tryd.func22, Tryd.ntmps22
    go_wp2_with fail
    with_reducible refine HR.out.mono ?_
    rintro e w1 ⟨rfl, hb⟩
    go_wp2_with fail
    with_reducible refine (HPu.out _).mono ?_
    rintro e w2 ⟨rfl, hb2⟩
    have hb' := grows hb hb2
    have HV2 := Lib.hid (HV.out.below hb')
    clear hb hb2
    go_wp2_with fail
    go_loopw [2, 14] (fun acc i wr => ∃ j : Nat, j ≤ ls.length ∧ i = .int .i64 j ∧ acc = .string (F j) ∧ Below w2.heap.size w2 wr) (fun _ i _ => ls.length - (intOf i).toNat)
    case atStart => exact ⟨0, Nat.zero_le _, rfl, rfl, Below.refl _ _⟩
    case round =>
      obtain ⟨j, hj, rfl, rfl, hbr⟩ := hrel
      by_cases hlt : j < ls.length
      · have hltz : (j : Int) < (ls.length : Int) := by omega
        obtain ⟨g, o, rfl, hg, hcell⟩ := (HV2.out.below hbr).cells hlt
        obtain ⟨t, ht⟩ : ∃ t, ls[j]? = some t := ⟨_, List.getElem?_eq_getElem hlt⟩
        obtain ⟨c0, c1, s, c2, hs⟩ := hcell j t ht
        obtain ⟨sa, sc, rfl, _, _⟩ := hs.slice
        have hrt := HTS.out t (List.mem_of_getElem? ht)
        have HX : Hid (∀ W, Below wr.heap.size wr W → Calls Tryd.prog 47 #[.agg #[.string t.1, .bool t.2.1, .slice sa t.2.2.length sc]] W fun e w' => e = .returned (.string (str (formT t))) ∧ Below W.heap.size W w') := Lib.hid fun W h => putTerm_any _ t W ⟨_, rfl, hs.below h⟩ hrt
        have hax := HA.out j t ht
        have hfs := HAS.out j
        have hfl : (str (formT t)).size ≤ 300 := by rw [str_len]; exact form_small hrt
        obtain ⟨fx, hfx⟩ : ∃ f, f = str (formT t) := ⟨_, rfl⟩
        rw [← hfx] at HX hax hfl
        have hadd2 : ∀ w, Sem.run Tryd.prog (Op.stringOp .add (F j) fx) w = .ok (.string (F (j + 1))) w := fun w => by rw [← hax]; exact run_string_add_sum w (F j) fx (by omega)
        obtain ⟨tk, tn, tv⟩ := t
        clear ht hcell hfx hax hrt hs
        go_wp2_with fail
        with_reducible refine (HX.out _ (grew wr _)).mono ?_
        rintro e w3 ⟨rfl, hb3⟩
        go_wp2
        go_roundw
        case rel => exact ⟨j + 1, by omega, by go_num, rfl, grows hbr (grows (grew wr _) hb3)⟩
        case measure => simp [intOf]; omega
      · obtain rfl : j = ls.length := by omega
        go_wp2
        go_ret
        exact ⟨rfl, grows hb' hbr⟩
end Go.Proofs.YtcgknkbigbbfdaaDoor.Sel
