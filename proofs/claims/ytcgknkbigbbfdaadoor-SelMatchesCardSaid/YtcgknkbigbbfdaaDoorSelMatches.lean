/-
  demesnelaw05.SelMatches, for every input: a selector matches just if each of its terms does alone, and no terms match all (the law answers true, and its arguments read as before).
  Conditions: none beyond the row's own (the reach; what the row lists, tied by the card).
-/
import Derived.Test.YtcgknkbigbbfdaaDoorSLits
import Derived.Test.YtcgknkbigbbfdaaDoorLArgs
import Derived.Test.YtcgknkbigbbfdaaDoorSErr
import Derived.Test.YtcgknkbigbbfdaaDoorEnd
import Derived.Test.YtcgknkbigbbfdaaDoorTie
import Derived.Test.YtcgknkbigbbfdaaDoorCards
import Derived.LaidMore
import Derived.Lay
import Derived.PlainAid
import Derived.SevenTiedAt
import Derived.Stop.Joined
namespace Go.Proofs.YtcgknkbigbbfdaaDoor.selMatches
open Go.RowKit Go.Proofs.YtcgknkbigbbfdaaDoor.Sel Go.Proofs.YtcgknkbigbbfdaaDoor.Texts Go.Proofs.YtcgknkbigbbfdaaDoor.Boxes Go.Proofs.YtcgknkbigbbfdaaDoor.Label

/-- One term of a selector, as a selector. -/
theorem trow_at {w : World} {g o cap n : Nat} {ls : List Tm} {t : Tm} (h : TRow w (.slice (some ⟨g, o, none⟩) n cap) ls) (k : Nat) (ht : ls[k]? = some t) : TRow w (.slice (some ⟨g, o + k * 3, none⟩) 1 (cap - k)) [t] := by
  have hk := (List.getElem?_eq_some_iff.1 ht).1
  rcases h with ⟨rfl, _⟩ | ⟨h0, g', o', cap', hsl, hg, hc, hm, hcell⟩
  · simp at hk
  · injection hsl with h1 h2 h3
    injection h1 with h1
    injection h1 with h1 h4 _
    subst h1 h2 h3 h4
    refine .inr ⟨by simp, g, o + k * 3, cap - k, rfl, hg, by simp; omega, by omega, fun j x hj => ?_⟩
    match j with
    | 0 =>
      simp at hj
      subst hj
      have := hcell k t ht
      rw [Nat.zero_mul, Nat.add_zero]
      exact this
    | (m + 1) => simp at hj
theorem take_true {f : ByteArray → Option ByteArray} {ls : List Tm} {k : Nat} {t : Tm} (ht : ls[k]? = some t) : matchS f (ls.take (k + 1)) = (matchS f (ls.take k) && matchS f [t]) := by
  unfold matchS
  rw [List.take_add_one, ht, List.all_append]
  simp

set_option maxHeartbeats 4000000 in
set_option maxRecDepth 100000 in
theorem walk (v : Value) (ls : List Tm) (hl : ls.length * 48 ≤ 140737488351232) (hz : ∀ t ∈ ls, t.1.size ≤ 140737488351232 ∧ t.2.2.length * 16 ≤ 140737488351232 ∧ ∀ x ∈ t.2.2, x.size ≤ 140737488351232) (pv : Value) (ps : List Pr) (hp : ps.length ≤ 4398046511104) (w : World) (hE : Err w) (hv : TRow w v ls) (hpv : Row w pv ps) :
    Calls Tryd.prog 5 #[v, pv] w fun e w' => e = .returned (.bool true) ∧ Below w.heap.size w w' := by
  have hF : Sel.Fair ls := ⟨by omega, fun t ht => by obtain ⟨h1, h2, h3⟩ := hz t ht; exact ⟨by omega, by omega, fun x hx => by have := h3 x hx; omega⟩⟩
  have HX := Lib.hid (examples_any w hE)
  obtain ⟨a, cap, rfl, hcap, hm⟩ := hv.slice
  have HV := Lib.hid hv
  have HP := Lib.hid hpv
  obtain ⟨R, hR⟩ : ∃ R : Nat → Bool, R = fun k => matchS (findL ps) (ls.take k) := ⟨_, rfl⟩
  have HM : Hid (∀ W, Below w.heap.size w W → Calls Tryd.prog 18 #[.slice a ls.length cap, pv] W fun e w' => e = .returned (.bool (R ls.length)) ∧ Below W.heap.size W w') := Lib.hid fun W h => by
    have := match_any _ ls pv ps W (hv.below h) hF (hpv.below h) (by omega)
    rw [hR]
    simp only [List.take_length]
    exact this
  have HN : Hid (∀ W, Below w.heap.size w W → Calls Tryd.prog 18 #[.slice none 0 0, pv] W fun e w' => e = .returned (.bool true) ∧ Below W.heap.size W w') := Lib.hid fun W h => match_any _ [] pv ps W (TRow.nil W) ⟨by simp, fun t ht => by simp at ht⟩ (hpv.below h) (by omega)
  have HO : Hid (∀ k t s, ls[k]? = some t → ∀ W, TRow W s [t] → Row W pv ps → ∃ r, R (k + 1) = (R k && r) ∧ Calls Tryd.prog 18 #[s, pv] W fun e w' => e = .returned (.bool r) ∧ Below W.heap.size W w') := Lib.hid fun k t s ht W h1 h2 => by
    refine ⟨matchS (findL ps) [t], by rw [hR]; exact take_true ht, ?_⟩
    obtain ⟨b1, b2, b3⟩ := hF.2 t (List.mem_of_getElem? ht)
    exact match_any s [t] pv ps W h1 (fair_one b1 b2 b3) h2 (by omega)
  have HS : Hid (∀ k, R k = false → k < ls.length → R (k + 1) = false) := Lib.hid fun k hk hlt => by
    have := take_true (f := findL ps) (List.getElem?_eq_getElem hlt)
    rw [hR] at hk ⊢
    simp only at hk ⊢
    rw [this, hk]
    rfl
  have hR0 : R 0 = true := by rw [hR]; rfl
  clear hE hR hv hpv hF hz
  go_enter Tryd.func5, Tryd.ntmps5
  go_wp2_with fail
  with_reducible refine HX.out.mono ?_
  rintro e w1 ⟨rfl, hb1⟩
  go_wp2_with fail
  go_loopw [6, 7] (fun acc i wr => ∃ k : Nat, k ≤ ls.length ∧ i = .int .i64 k ∧ acc = .bool (R k) ∧ Below w.heap.size w wr) (fun _ i _ => ls.length - (intOf i).toNat)
  case atStart => exact ⟨0, Nat.zero_le _, rfl, by rw [hR0], hb1⟩
  case round =>
    obtain ⟨k, hk, rfl, rfl, hb⟩ := hrel
    by_cases hlt : k < ls.length
    · have hltz : (k : Int) < (ls.length : Int) := by omega
      obtain ⟨r, hr⟩ : ∃ r, R k = r := ⟨_, rfl⟩
      rw [hr]
      cases r with
      | false =>
        have HF := Lib.hid (HS.out k hr hlt)
        clear hr
        go_wp2
        go_roundw
        case rel => exact ⟨k + 1, by omega, by go_num, by rw [HF.out], hb⟩
        case measure => simp [intOf]; omega
      | true =>
        obtain ⟨g, o, rfl, _, _⟩ := (HV.out.below hb).cells hlt
        obtain ⟨t, ht⟩ : ∃ t, ls[k]? = some t := ⟨_, List.getElem?_eq_getElem hlt⟩
        obtain ⟨q, hq, hcall⟩ := HO.out k t _ ht wr (trow_at (HV.out.below hb) k ht) (HP.out.below hb)
        have HC := Lib.hid hcall
        have HQ : Hid (R (k + 1) = q) := Lib.hid (by rw [hq, hr]; rfl)
        have hck : ¬ cap = k := by omega
        have hck2 : ¬ cap - k = 0 := by omega
        have hkc : (k : Int) + 1 ≤ (cap : Int) := by omega
        have hk1 : (k : Int) ≤ (k : Int) + 1 := by omega
        clear hq hcall hr ht
        go_wp2_with fail
        with_reducible refine HC.out.mono ?_
        rintro e w2 ⟨rfl, hb2⟩
        go_wp2
        go_roundw
        case rel => exact ⟨k + 1, by omega, by go_num, by rw [HQ.out], grows hb hb2⟩
        case measure => simp [intOf]; omega
    · obtain rfl : k = ls.length := by omega
      obtain ⟨r, hr⟩ : ∃ r, R ls.length = r := ⟨_, rfl⟩
      rw [hr] at HM ⊢
      have hrr : (r == r) = true := by simp
      clear hr
      go_wp2_with fail
      with_reducible refine (HM.out _ hb).mono ?_
      rintro e w2 ⟨rfl, hb2⟩
      go_wp2_with fail
      with_reducible refine (HN.out _ (grows hb hb2)).mono ?_
      rintro e w3 ⟨rfl, hb3⟩
      go_wp2
      go_ret
      exact ⟨rfl, grows (grows hb hb2) hb3⟩

open Go.ChangeShapes Go.WideShapes Go.ChangeAt
set_option maxRecDepth 100000 in
theorem lifted (os : Os) (started : os.Started) (H : Type) (enc : TypeId × Value → H) :
    ReturnsInHanded {} Tryd.checked os 5 .any (fun w args => (Rows.selMatchesSpec.pre enc Tryd.prog Tryd.f5 Rows.selMatchesRow.domain false w args ∧ laidMetH Tryd.prog Rows.selMatchesRow.laid w) ∧ sizedMet enc Tryd.prog Tryd.f5 (OpenSpec.ofChange Rows.selMatchesSpec) false w args)
      (Rows.selMatchesSpec.post enc Tryd.prog Tryd.f5 false true false false) := by
  refine returnsInHanded_of_change_and (C := Tryd.checked) (X := fun w _ => laidMetH Tryd.prog Rows.selMatchesRow.laid w) (fun _ _ _ hh h => h.of_heap hh) Ends.own started (by kernel_rfl) Tryd.func5
    (ChangeSpec.witness_shaped (enc := enc) (C := Tryd.checked) (os := os) (X := fun w _ => laidMetH Tryd.prog Rows.selMatchesRow.laid w) false (World.laidAll Tryd.prog os Rows.selMatchesRow.laid) #[.slice none 0 0, .slice none 0 0] 8 (World.laidAll_os _ _ _)
      (World.shaped_of_ZipB (by kernel_rfl) (by kernel_rfl)) (by kernel_rfl) (by kernel_rfl) (by kernel_rfl)
      (by rw [MakeChecks.laidMetH_plain _ _ _ (by kernel_rfl)]; exact laidMet_laidAll _ (by kernel_rfl) (by kernel_rfl))) ?_
  intro W base args ds gs before hval0 hW _ hsz0 hL _
  have hval : ∀ (j : Nat) t v, Tryd.f5.params[j]? = some t → args[j]? = some v → Value.okWide Tryd.prog W .any base t v := hval0
  have hsz : (DataW.weightsEach Tryd.prog (Tryd.f5.params.toList ++ Rows.selMatchesSpec.plain.varTypes Tryd.prog) (ds ++ gs)).all (· ≤ reachBytes) = true := hsz0
  have hW' := hW
  obtain ⟨p, q, hA0, hV, rfl, hfz, hnd⟩ := hW
  have hA : DataW.TrodAll enc Tryd.prog W 0 (fun _ => true) true Tryd.f5.params.toList args.toList ds p := hA0
  rw [Tryd.params5] at hA hval hsz
  obtain ⟨v0, vs0, d0, ds0, p0, q0, hargs, rfl, rfl, h0, r0⟩ := trodAll_cons hA
  obtain ⟨v1, vs1, d1, ds1, p1, q1, rfl, rfl, rfl, h1, r1⟩ := trodAll_cons r0
  obtain ⟨rfl, rfl, rfl⟩ := trodAll_nil r1
  obtain rfl : args = #[v0, v1] := by cases args; simp_all
  obtain ⟨rfl, rfl⟩ := trodVars_none hV
  obtain ⟨a0, w0, g0⟩ := Sel.open_terms Tryd.underlying22 (f0 := (Tryd.prog.fieldsOf 51)[0]!) (f1 := (Tryd.prog.fieldsOf 51)[1]!) (f2 := (Tryd.prog.fieldsOf 51)[2]!) (ts := 49) (es := 9) (by kernel_rfl) (by kernel_rfl) (by kernel_rfl) (by kernel_rfl) (by kernel_rfl) (by kernel_rfl) (by kernel_rfl) (by kernel_rfl) (by kernel_rfl) (by kernel_rfl) (by kernel_rfl) (by kernel_rfl) (by kernel_rfl) (by kernel_rfl) (hval 0 22 v0 rfl rfl) h0
  have q0 : ∀ n ∈ d0.weights Tryd.prog 22, n ≤ 140737488351232 := fun n hn => of_decide_eq_true (List.all_eq_true.1 hsz n (DataW.weights_mem_each (j := 0) rfl rfl n hn))
  have b0 := g0.reach (P := Tryd.prog) (f0 := (Tryd.prog.fieldsOf 51)[0]!) (f1 := (Tryd.prog.fieldsOf 51)[1]!) (f2 := (Tryd.prog.fieldsOf 51)[2]!) (ts := 49) (es := 9) Tryd.underlying22 (by kernel_rfl) (by kernel_rfl) (by kernel_rfl) (by kernel_rfl) (by kernel_rfl) q0
  obtain ⟨a1, w1, b1⟩ := Label.open_pairs Tryd.underlying23 (f0 := (Tryd.prog.fieldsOf 56)[0]!) (f1 := (Tryd.prog.fieldsOf 56)[1]!) (by kernel_rfl) (by kernel_rfl) (by kernel_rfl) (by kernel_rfl) (by kernel_rfl) (by kernel_rfl) (by kernel_rfl) (by kernel_rfl) (by kernel_rfl) hsz (j := 1) rfl rfl (hval 1 23 v1 rfl rfl) h1
  refine (walk v0 a0 b0.1 b0.2 v1 a1 b1 W (Sel.err_met (by kernel_rfl) hL) w0 w1).mono fun e W' ⟨he, hb⟩ => ?_
  subst he
  exact ⟨_, rfl, Ends.law_end Ends.laidOut (by rw [Tryd.params5]; decide +kernel) rfl (by kernel_rfl) Tryd.underlying4 hW' rfl hb⟩

theorem row : Rows.SelMatchesSaid :=
  OpenClaim.holds_of_wide 5 Tryd.f5 rfl rfl rfl rfl rfl rfl rfl ⟨rfl, rfl, rfl, rfl, rfl⟩ rfl rfl rfl rfl rfl (by kernel_rfl) Tryd.func5 (by kernel_rfl)
    (of_decide_eq_true (by kernel_rfl)) (by unfold Func.isWrapper; first | (rw [if_pos (by decide +kernel)]; kernel_rfl) | (rw [if_neg (by decide +kernel)]; exact ⟨rfl, rfl⟩))
    (fun os started H enc _ => lifted os started H enc)

/-- The statement: the tied card. -/
theorem proved : Rows.SelMatchesCardSaid :=
  Claim7.holds_tied_plain_at .later [] [.data, .sentinel, .pinned] true Rows.selMatchesCard.stood.harness true row (fun _ h => by cases h) (by kernel_rfl) (fun _ h => by cases h) selMatches_row_tie rfl ⟨rfl, rfl⟩ (by kernel_rfl) rfl
    (fun f fn hf hfn => by
      obtain rfl : f = 5 := Option.some.inj ((show Tryd.prog.funcNamed "demesne/demesnelaw05.SelMatches" = some 5 by kernel_rfl).symm.trans hf) |>.symm
      obtain rfl : fn = Tryd.f5 := (Option.some.inj (Tryd.func5.symm.trans hfn)).symm
      exact ⟨by kernel_rfl, fun j t ht => by
        rw [Tryd.params5] at ht
        have hm : t ∈ [22, 23] := by simpa using Array.mem_of_getElem? ht
        have hall : ([22, 23].all fun u => !Tryd.prog.wantsStandIn u) = true := by kernel_rfl
        exact (show Tryd.prog.wantsStandIn t = false by simpa using List.all_eq_true.1 hall t hm)⟩)
    (by kernel_rfl)
end Go.Proofs.YtcgknkbigbbfdaaDoor.selMatches
