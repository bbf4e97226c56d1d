/- What sel.putTerm and sel.Put answer of any term that is right and any selector; of memory that was there nothing turns. -/
import Derived.Test.YtcgknkbigbbfdaaDoorSSameV
import Derived.Test.YtcgknkbigbbfdaaDoorText
namespace Go.Proofs.YtcgknkbigbbfdaaDoor.Sel
open Go.RowKit Go.Proofs.YtcgknkbigbbfdaaDoor.Texts Go.Proofs.YtcgknkbigbbfdaaDoor.Word Go.Proofs.YtcgknkbigbbfdaaDoor.Label Go.Proofs.YtcgknkbigbbfdaaDoor.Forms

theorem str_append (a b : List UInt8) : str a ++ str b = str (a ++ b) := by
  apply ByteArray.ext
  apply Array.toList_inj.1
  rw [ByteArray.data_append, Array.toList_append, str_toList, str_toList, str_toList]
theorem text_flat (t : ByteArray) : Wire.str (Wire.putL t.size) ++ t = str (flat t) := by
  apply ByteArray.ext
  apply Array.toList_inj.1
  rw [ByteArray.data_append, Array.toList_append, str_toList, Wire.str_toList]
  rfl
theorem str_len (l : List UInt8) : (str l).size = l.length := by rw [← size_list, str_toList]
theorem wire_str (l : List UInt8) : Wire.str l = str l := by
  apply ByteArray.ext
  apply Array.toList_inj.1
  rw [str_toList, Wire.str_toList]
theorem flat_small {t : ByteArray} (h : t.size ≤ 32) : (flat t).length ≤ 42 := by
  rw [flat_len]
  have := Wire.putL_ten (u := t.size) (by omega)
  omega
/-- The form of a term but for some values. -/
def accT (t : Tm) (k : Nat) : List UInt8 := flat t.1 ++ (Wire.putL (numT t) ++ (t.2.2.take k).flatMap flat)
theorem accT_all (t : Tm) : accT t t.2.2.length = formT t := by unfold accT formT; rw [List.take_length]
theorem accT_more {t : Tm} {k : Nat} {x : ByteArray} (hx : t.2.2[k]? = some x) : accT t (k + 1) = accT t k ++ flat x := by
  unfold accT
  rw [List.take_add_one, hx]
  simp
theorem flats_small : ∀ (vs : List ByteArray), (∀ v ∈ vs, v.size ≤ 32) → (vs.flatMap flat).length ≤ 42 * vs.length
  | [], _ => by simp
  | v :: vs, h => by
    have h1 := flat_small (h v (List.mem_cons_self ..))
    have h2 := flats_small vs (fun x hx => h x (List.mem_cons_of_mem _ hx))
    rw [List.flatMap_cons, List.length_append, List.length_cons]
    omega
theorem accT_small {t : Tm} (ht : rightT t = true) (k : Nat) : (accT t k).length ≤ 300 := by
  obtain ⟨h1, h2, h3, _⟩ := rightT_parts ht
  have hn9 : numT t ≤ 9 := by unfold numT; split <;> omega
  have a1 := flat_small (name_size h1)
  have a2 := Wire.putL_ten (u := numT t) (by omega)
  have a3 := flats_small (t.2.2.take k) (fun v hv => name_size (h3 v (List.mem_of_mem_take hv)))
  have a4 := List.length_take_le k t.2.2
  have a5 : (t.2.2.take k).length ≤ 4 := by rw [List.length_take]; omega
  unfold accT
  rw [List.length_append, List.length_append]
  omega

set_option maxHeartbeats 1000000 in
set_option maxRecDepth 100000 in
theorem putTerm_any (v : Value) (t : Tm) (w : World) (hv : TermV w v t) (ht : rightT t = true) :
    Calls Tryd.prog 47 #[v] w fun e w' => e = .returned (.string (str (formT t))) ∧ Below w.heap.size w w' := by
  obtain ⟨s, rfl, hs⟩ := hv
  obtain ⟨sa, sc, rfl, _, _⟩ := hs.slice
  have HT := Lib.hid ht
  obtain ⟨h1, h2, h3, _⟩ := rightT_parts ht
  have H3 := Lib.hid h3
  have hk32 := name_size h1
  have hn9 : numT t ≤ 9 := by unfold numT; split <;> omega
  have HK : Hid (∀ W, Calls Tryd.prog 68 #[.string t.1] W fun e w' => e = .returned (.string (str (flat t.1))) ∧ Below W.heap.size W w') := Lib.hid fun W => by rw [← text_flat]; exact Wire.putText_any t.1 (by omega) W
  have HN : Hid (∀ W, Calls Tryd.prog 46 #[.int .u64 (numT t : Int)] W fun e w' => e = .returned (.string (str (Wire.putL (numT t)))) ∧ Below W.heap.size W w') := Lib.hid fun W => by rw [← wire_str]; exact Wire.put_any (numT t) (by omega) W
  have HV : Hid (∀ x ∈ t.2.2, ∀ W, Calls Tryd.prog 68 #[.string x] W fun e w' => e = .returned (.string (str (flat x))) ∧ Below W.heap.size W w') := Lib.hid fun x hx W => by rw [← text_flat]; exact Wire.putText_any x (by have := name_size (h3 x hx); omega) W
  have HS := Lib.hid hs
  have hnum : ∀ b, t.2.1 = b → (numT t : Int) = 2 * (t.2.2.length : Int) + (if b = true then 1 else 0) := fun b hb => by unfold numT; rw [hb]; split <;> simp
  have hA0 : Hid (str (flat t.1) ++ str (Wire.putL (numT t)) = str (accT t 0)) := Lib.hid (by rw [str_append]; unfold accT; simp)
  have hz1 : (str (flat t.1)).size ≤ 42 := by rw [str_len]; exact flat_small hk32
  have hz2 : (str (Wire.putL (numT t))).size ≤ 10 := by rw [str_len]; exact Wire.putL_ten (by omega)
  have HA : Hid (∀ k x, t.2.2[k]? = some x → str (accT t k) ++ str (flat x) = str (accT t (k + 1))) := Lib.hid fun k x hx => by rw [accT_more hx, str_append]
  have HAS : Hid (∀ k, (str (accT t k)).size ≤ 300) := Lib.hid fun k => by rw [str_len]; exact accT_small ht k
  have HE : Hid (accT t t.2.2.length = formT t) := Lib.hid (accT_all t)
  have hl4 : t.2.2.length ≤ 4 := h2
  obtain ⟨f1, hf1⟩ : ∃ f, f = str (flat t.1) := ⟨_, rfl⟩
  obtain ⟨f2, hf2⟩ : ∃ f, f = str (Wire.putL (numT t)) := ⟨_, rfl⟩
  rw [← hf1] at hA0 HK hz1
  rw [← hf2] at hA0 HN hz2
  obtain ⟨N, hN⟩ : ∃ N : Int, N = (numT t : Int) := ⟨_, rfl⟩
  rw [← hN] at HN hnum
  clear hf1 hf2 hs ht h1 h2 h3 hn9 hN
  obtain ⟨F, hF⟩ : ∃ F : Nat → ByteArray, F = fun k => str (accT t k) := ⟨_, rfl⟩
  have HF : Hid (F t.2.2.length = str (formT t)) := Lib.hid (by rw [hF]; simp only; rw [HE.out])
  rw [← HF.out]
  change Hid (_ = (fun k => str (accT t k)) 0) at hA0
  change Hid (∀ k x, _ → (fun k => str (accT t k)) k ++ _ = (fun k => str (accT t k)) (k + 1)) at HA
  change Hid (∀ k, ((fun k => str (accT t k)) k).size ≤ 300) at HAS
  rw [← hF] at hA0 HA HAS
  clear hF HE HF HT
  obtain ⟨k, n, vs⟩ := t
  simp only at *
  have hadd1 : ∀ w, Sem.run Tryd.prog (Op.stringOp .add f1 f2) w = .ok (.string (F 0)) w := fun w => by rw [← hA0.out]; exact run_string_add_sum w f1 f2 (by omega)
  have hw1 : IntKind.u64.wrap (vs.length : Int) = (vs.length : Int) := by rw [IntKind.wrap_u64]; omega
  have hw2 : IntKind.u64.wrap (2 * (vs.length : Int)) = 2 * (vs.length : Int) := by rw [IntKind.wrap_u64]; omega
  have hw3 : IntKind.u64.wrap (2 * (vs.length : Int) + 1) = 2 * (vs.length : Int) + 1 := by rw [IntKind.wrap_u64]; omega
  have hnn : N = 2 * (vs.length : Int) + (if n = true then 1 else 0) := hnum n rfl
  clear hnum
  cases n with
  | true =>
    simp only [if_true] at hnn
    subst hnn
    go_enter Tryd.func47, Tryd.ntmps47
    go_wp2_with fail
    with_reducible refine (HK.out _).mono ?_
    rintro e w1 ⟨rfl, hb1⟩
    go_wp2_with fail
    with_reducible refine (HN.out _).mono ?_
    rintro e w2 ⟨rfl, hb2⟩
    obtain ⟨hB, c0, c1, c2⟩ := cell_new (grows hb1 hb2)
    have hb := grows (grew w _) (grows hb1 hb2)
    have HS2 := Lib.hid (HS.out.below hb)
    clear hb1 hb2
    go_wp2_with fail
    go_loopw [4, 25] (fun acc i wr => ∃ j : Nat, j ≤ vs.length ∧ i = .int .i64 j ∧ acc = .string (F j) ∧ Below w2.heap.size w2 wr) (fun _ i _ => vs.length - (intOf i).toNat)
    case atStart => exact ⟨0, Nat.zero_le _, rfl, rfl, Below.refl _ _⟩
    case round =>
      obtain ⟨j, hj, rfl, rfl, hbr⟩ := hrel
      by_cases hlt : j < vs.length
      · have hltz : (j : Int) < (vs.length : Int) := by omega
        obtain ⟨g, o, rfl, hg, hcell⟩ := (HS2.out.below hbr).cells hlt
        obtain ⟨x, hx⟩ : ∃ x, vs[j]? = some x := ⟨_, List.getElem?_eq_getElem hlt⟩
        have hc := hcell j x hx
        have HX := Lib.hid (HV.out x (List.mem_of_getElem? hx))
        have hax := HA.out j x hx
        have hfs := HAS.out j
        have hfl : (str (flat x)).size ≤ 42 := by rw [str_len]; exact flat_small (name_size (H3.out x (List.mem_of_getElem? hx)))
        obtain ⟨fx, hfx⟩ : ∃ f, f = str (flat x) := ⟨_, rfl⟩
        rw [← hfx] at HX hax hfl
        have hadd2 : ∀ w, Sem.run Tryd.prog (Op.stringOp .add (F j) fx) w = .ok (.string (F (j + 1))) w := fun w => by rw [← hax]; exact run_string_add_sum w (F j) fx (by omega)
        clear hx hcell hfx hax
        go_wp2_with fail
        with_reducible refine (HX.out _).mono ?_
        rintro e w3 ⟨rfl, hb3⟩
        go_wp2
        go_roundw
        case rel => exact ⟨j + 1, by omega, by go_num, rfl, grows hbr hb3⟩
        case measure => simp [intOf]; omega
      · obtain rfl : j = vs.length := by omega
        go_wp2
        go_ret
        exact ⟨rfl, grows hb hbr⟩
  | false =>
    simp only [Bool.false_eq_true, if_false, Int.add_zero] at hnn
    subst hnn
    go_enter Tryd.func47, Tryd.ntmps47
    go_wp2_with fail
    with_reducible refine (HK.out _).mono ?_
    rintro e w1 ⟨rfl, hb1⟩
    go_wp2_with fail
    with_reducible refine (HN.out _).mono ?_
    rintro e w2 ⟨rfl, hb2⟩
    obtain ⟨hB, c0, c1, c2⟩ := cell_new (grows hb1 hb2)
    have hb := grows (grew w _) (grows hb1 hb2)
    have HS2 := Lib.hid (HS.out.below hb)
    clear hb1 hb2
    go_wp2_with fail
    go_loopw [4, 25] (fun acc i wr => ∃ j : Nat, j ≤ vs.length ∧ i = .int .i64 j ∧ acc = .string (F j) ∧ Below w2.heap.size w2 wr) (fun _ i _ => vs.length - (intOf i).toNat)
    case atStart => exact ⟨0, Nat.zero_le _, rfl, rfl, Below.refl _ _⟩
    case round =>
      obtain ⟨j, hj, rfl, rfl, hbr⟩ := hrel
      by_cases hlt : j < vs.length
      · have hltz : (j : Int) < (vs.length : Int) := by omega
        obtain ⟨g, o, rfl, hg, hcell⟩ := (HS2.out.below hbr).cells hlt
        obtain ⟨x, hx⟩ : ∃ x, vs[j]? = some x := ⟨_, List.getElem?_eq_getElem hlt⟩
        have hc := hcell j x hx
        have HX := Lib.hid (HV.out x (List.mem_of_getElem? hx))
        have hax := HA.out j x hx
        have hfs := HAS.out j
        have hfl : (str (flat x)).size ≤ 42 := by rw [str_len]; exact flat_small (name_size (H3.out x (List.mem_of_getElem? hx)))
        obtain ⟨fx, hfx⟩ : ∃ f, f = str (flat x) := ⟨_, rfl⟩
        rw [← hfx] at HX hax hfl
        have hadd2 : ∀ w, Sem.run Tryd.prog (Op.stringOp .add (F j) fx) w = .ok (.string (F (j + 1))) w := fun w => by rw [← hax]; exact run_string_add_sum w (F j) fx (by omega)
        clear hx hcell hfx hax
        go_wp2_with fail
        with_reducible refine (HX.out _).mono ?_
        rintro e w3 ⟨rfl, hb3⟩
        go_wp2
        go_roundw
        case rel => exact ⟨j + 1, by omega, by go_num, rfl, grows hbr hb3⟩
        case measure => simp [intOf]; omega
      · obtain rfl : j = vs.length := by omega
        go_wp2
        go_ret
        exact ⟨rfl, grows hb hbr⟩
end Go.Proofs.YtcgknkbigbbfdaaDoor.Sel
