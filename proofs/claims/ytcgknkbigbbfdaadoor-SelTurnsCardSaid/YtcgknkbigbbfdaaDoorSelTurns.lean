/-
  demesnelaw05.SelTurns, for every input: with its Not turned a term matches just what it did not; one of a few values matches what one of them alone does; one of none what has the key (the law answers true, and its arguments read as before).
  Conditions: none beyond the row's own (the reach; what the row lists, tied by the card).
-/
import Derived.Test.YtcgknkbigbbfdaaDoorSLits
import Derived.Test.YtcgknkbigbbfdaaDoorLArgs
import Derived.Test.YtcgknkbigbbfdaaDoorSErr
import Derived.Test.YtcgknkbigbbfdaaDoorEnd
import Derived.Test.YtcgknkbigbbfdaaDoorTie
import Derived.Test.YtcgknkbigbbfdaaDoorCards
import Derived.LaidMore
import Derived.Lay
import Derived.PlainAid
import Derived.SevenTiedAt
import Derived.Stop.Joined
namespace Go.Proofs.YtcgknkbigbbfdaaDoor.selTurns
open Go.RowKit Go.Proofs.YtcgknkbigbbfdaaDoor.Sel Go.Proofs.YtcgknkbigbbfdaaDoor.Texts Go.Proofs.YtcgknkbigbbfdaaDoor.Boxes Go.Proofs.YtcgknkbigbbfdaaDoor.Label

/-- The first few texts. -/
theorem srow_take {w : World} {a : Option Addr} {cap : Nat} {ts : List ByteArray} (h : SRow w (.slice a ts.length cap) ts) (m : Nat) (hm : m ≤ ts.length) : SRow w (.slice a m cap) (ts.take m) := by
  rcases h with ⟨rfl, _, cap', he, hc⟩ | ⟨h0, g, o, cap', he, hg, hc, hx, hcell⟩
  · injection he with h1 _ h3
    subst h3
    obtain rfl : m = 0 := by simpa using hm
    exact .inl ⟨rfl, _, _, rfl, hc⟩
  · injection he with h1 _ h3
    subst h1 h3
    by_cases hz : m = 0
    · subst hz
      exact .inl ⟨rfl, _, _, rfl, hx⟩
    · have hl : (ts.take m).length = m := by rw [List.length_take]; omega
      refine .inr ⟨fun e => by rw [e] at hl; simp at hl; omega, g, o, cap, by rw [hl], hg, by rw [hl]; omega, hx, fun j t hj => ?_⟩
      rw [List.getElem?_take] at hj
      split at hj
      · exact hcell j t hj
      · cases hj
/-- One of some texts. -/
theorem srow_at {w : World} {g o cap n : Nat} {ts : List ByteArray} {t : ByteArray} (h : SRow w (.slice (some ⟨g, o, none⟩) n cap) ts) (k : Nat) (ht : ts[k]? = some t) : SRow w (.slice (some ⟨g, o + k, none⟩) 1 (cap - k)) [t] := by
  have hk := (List.getElem?_eq_some_iff.1 ht).1
  rcases h with ⟨rfl, _⟩ | ⟨h0, g', o', cap', hsl, hg, hc, hm, hcell⟩
  · simp at hk
  · injection hsl with h1 h2 h3
    injection h1 with h1
    injection h1 with h1 h4 _
    subst h1 h2 h3 h4
    refine .inr ⟨by simp, g, o + k, cap - k, rfl, hg, by simp; omega, by omega, fun j x hj => ?_⟩
    match j with
    | 0 => simp at hj; subst hj; exact hcell k t ht
    | (m + 1) => simp at hj

/-- Does one of some values alone match? -/
def anyOne (r : Option ByteArray) (key : ByteArray) (ts : List ByteArray) : Bool := ts.any fun x => holdsT r (key, false, [x])
theorem any_take {r : Option ByteArray} {key : ByteArray} {ts : List ByteArray} {k : Nat} {t : ByteArray} (ht : ts[k]? = some t) : anyOne r key (ts.take (k + 1)) = (anyOne r key (ts.take k) || holdsT r (key, false, [t])) := by
  unfold anyOne
  rw [List.take_add_one, ht, List.any_append]
  simp
theorem holds_turn (r : Option ByteArray) (key : ByteArray) (ts : List ByteArray) : holdsT r (key, true, ts) = !holdsT r (key, false, ts) := by
  unfold holdsT
  cases r with
  | none => rfl
  | some v =>
    simp only
    cases (ts.isEmpty || ts.any fun x => x.toList == v.toList) <;> rfl
theorem holds_few (r : Option ByteArray) (key : ByteArray) (t : ByteArray) (ts : List ByteArray) : holdsT r (key, false, t :: ts) = anyOne r key (t :: ts) := by
  unfold anyOne holdsT
  cases r with
  | none => simp
  | some v => simp
theorem holds_key (r : Option ByteArray) (key : ByteArray) : holdsT r (key, false, []) = r.isSome := by
  unfold holdsT
  cases r <;> rfl
theorem holds_has {r : Option ByteArray} {key : ByteArray} {ts : List ByteArray} (h : holdsT r (key, false, ts) = true) : r.isSome = true := by
  cases r with
  | none => simp [holdsT] at h
  | some v => rfl

set_option maxHeartbeats 8000000 in
set_option maxRecDepth 100000 in
theorem walk (key : ByteArray) (hk0 : key.size ≤ 140737488351232) (v : Value) (vs : List ByteArray) (hl : vs.length * 16 ≤ 140737488351232) (hz : ∀ x ∈ vs, x.size ≤ 140737488351232) (pv : Value) (ps : List Pr) (hp : ps.length ≤ 4398046511104) (w : World) (hE : Err w) (hv : SRow w v vs) (hpv : Row w pv ps) :
    Calls Tryd.prog 6 #[.string key, v, pv] w fun e w' => e = .returned (.bool true) ∧ Below w.heap.size w w' := by
  have HX := Lib.hid (examples_any w hE)
  obtain ⟨a, cap, rfl, hcap, hmx⟩ := hv.slice
  obtain ⟨m, hm⟩ : ∃ m, m = min vs.length 20 := ⟨_, rfl⟩
  have hmin : min (vs.length : Int) 20 = (m : Int) := by omega
  have hm20 : m ≤ 20 := by omega
  have hmv : m ≤ vs.length := by omega
  have hmc : (m : Int) ≤ (cap : Int) := by omega
  have HT0 := Lib.hid (srow_take hv m hmv)
  obtain ⟨ts, hts⟩ : ∃ ts, ts = vs.take m := ⟨_, rfl⟩
  have htl : ts.length = m := by rw [hts, List.length_take]; omega
  have htz : ∀ x ∈ ts, x.size ≤ 4611686018427387904 := fun x hx => by rw [hts] at hx; have := hz x (List.mem_of_mem_take hx); omega
  rw [← hts] at HT0
  have HP := Lib.hid hpv
  obtain ⟨r, hr⟩ : ∃ r, r = findL ps key := ⟨_, rfl⟩
  obtain ⟨yes, hyes⟩ : ∃ b, b = holdsT r (key, false, ts) := ⟨_, rfl⟩
  obtain ⟨has, hhas⟩ : ∃ b, b = r.isSome := ⟨_, rfl⟩
  obtain ⟨S, hS⟩ : ∃ S : Nat → Bool, S = fun k => anyOne r key (ts.take k) := ⟨_, rfl⟩
  have HM : Hid (∀ s t W, TRow W s [(key, t)] → Row W pv ps → t.2.length ≤ 20 → (∀ x ∈ t.2, x.size ≤ 4611686018427387904) → Calls Tryd.prog 18 #[s, pv] W fun e w' => e = .returned (.bool (holdsT r (key, t))) ∧ Below W.heap.size W w') := Lib.hid fun s t W h1 h2 h3 h4 => by
    have := match_any s _ pv ps W h1 (fair_one (t := (key, t)) (by simp; omega) (by simp; omega) h4) h2 (by omega)
    rw [match_one, ← hr] at this
    exact this
  have HY : Hid (∀ s W, TRow W s [(key, false, ts)] → Row W pv ps → Calls Tryd.prog 18 #[s, pv] W fun e w' => e = .returned (.bool yes) ∧ Below W.heap.size W w') := Lib.hid fun s W h1 h2 => by rw [hyes]; exact HM.out s (false, ts) W h1 h2 (by simp; omega) htz
  have HNy : Hid (∀ s W, TRow W s [(key, true, ts)] → Row W pv ps → Calls Tryd.prog 18 #[s, pv] W fun e w' => e = .returned (.bool (!yes)) ∧ Below W.heap.size W w') := Lib.hid fun s W h1 h2 => by rw [hyes, ← holds_turn]; exact HM.out s (true, ts) W h1 h2 (by simp; omega) htz
  have HK : Hid (∀ s W, TRow W s [(key, false, [])] → Row W pv ps → Calls Tryd.prog 18 #[s, pv] W fun e w' => e = .returned (.bool has) ∧ Below W.heap.size W w') := Lib.hid fun s W h1 h2 => by rw [hhas, ← holds_key r key]; exact HM.out s (false, []) W h1 h2 (by simp) (fun x hx => by simp at hx)
  have HO : Hid (∀ k x s W, ts[k]? = some x → TRow W s [(key, false, [x])] → Row W pv ps → ∃ q, S (k + 1) = (S k || q) ∧ Calls Tryd.prog 18 #[s, pv] W fun e w' => e = .returned (.bool q) ∧ Below W.heap.size W w') := Lib.hid fun k x s W hx h1 h2 =>
    ⟨_, by rw [hS]; exact any_take hx, HM.out s (false, [x]) W h1 h2 (by simp) (fun y hy => by simp at hy; subst hy; exact htz _ (List.mem_of_getElem? hx))⟩
  have HS : Hid (∀ k, S k = true → k < ts.length → S (k + 1) = true) := Lib.hid fun k hk hlt => by
    have := any_take (r := r) (key := key) (List.getElem?_eq_getElem hlt)
    rw [hS] at hk ⊢
    simp only at hk ⊢
    rw [this, hk]
    rfl
  have hS0 : S 0 = false := by rw [hS]; rfl
  have HSY : Hid (m ≠ 0 → yes = S m) := Lib.hid fun h => by
    rw [hyes, hS]
    simp only
    rw [List.take_of_length_le (by omega)]
    cases ts with
    | nil => simp at htl; omega
    | cons t ts => exact holds_few r key t ts
  have HFi : Hid (∀ W, Row W pv ps → ∃ x, Calls Tryd.prog 27 #[pv, .string key] W fun e w' => e = .returned (.tuple #[.string x, .bool has]) ∧ Below W.heap.size W w') := Lib.hid fun W h => ⟨_, by rw [hhas, hr]; exact find_any pv ps key W h (by omega)⟩
  have HYH : Hid (yes = true → has = true) := Lib.hid fun h => by rw [hhas]; rw [hyes] at h; exact holds_has h
  clear hE hv hpv hr hyes hhas hS hz hts hm
  go_enter Tryd.func6, Tryd.ntmps6
  go_wp2_with fail
  with_reducible refine HX.out.mono ?_
  rintro e w1 ⟨rfl, hb1⟩
  have HT1 := Lib.hid (HT0.out.below hb1)
  have HR1 := Lib.hid (HP.out.below hb1)
  have hW : Below w1.heap.size w1 (((w1.alloc (.cells #[.string key, .bool false, .slice a m cap] 51)).alloc (.cells #[.string key, .bool true, .slice a m cap] 51)).alloc (.cells #[.string key, .bool false, .slice a m cap] 51)) := grows (grows (grew w1 _) (grew _ _)) (grew _ _)
  have HTr : Hid (TRow (((w1.alloc (.cells #[.string key, .bool false, .slice a m cap] 51)).alloc (.cells #[.string key, .bool true, .slice a m cap] 51)).alloc (.cells #[.string key, .bool false, .slice a m cap] 51)) (.slice (some ⟨w1.heap.size + 1 + 1, 0, none⟩) 1 1) [(key, false, ts)]) := Lib.hid (by
    have := trow_one ((w1.alloc (.cells #[.string key, .bool false, .slice a m cap] 51)).alloc (.cells #[.string key, .bool true, .slice a m cap] 51)) (key, false, ts) (.slice a m cap) 51 (HT1.out.below (grows (grew w1 _) (grew _ _)))
    simp only [size_alloc] at this
    exact this)
  have HC2 := Lib.hid (keep (fresh1 w1 (.cells #[.string key, .bool false, .slice a m cap] 51) (.cells #[.string key, .bool true, .slice a m cap] 51)) (old _ (.cells #[.string key, .bool false, .slice a m cap] 51)))
  go_wp2_with fail
  refine (HY.out _ _ HTr.out (HR1.out.below hW)).mono ?_
  rintro e w2 ⟨rfl, hb2⟩
  have HC3 := Lib.hid (keep HC2.out hb2)
  have hbw := grows (grows hb1 hW) hb2
  have hlt2 := lt_of HC3.out
  clear hW HTr HC2 HR1 HT1 hb1 hb2
  go_wp2_with fail
  go_loopw [11, 12] (fun acc i wr => ∃ k : Nat, k ≤ m ∧ i = .int .i64 k ∧ acc = .bool (S k) ∧ Below w2.heap.size w2 wr) (fun _ i _ => m - (intOf i).toNat)
  case atStart => exact ⟨0, Nat.zero_le _, rfl, by rw [hS0], Below.refl _ _⟩
  case round =>
    obtain ⟨k, hk, rfl, rfl, hb⟩ := hrel
    by_cases hlt : k < m
    · have hltz : (k : Int) < (m : Int) := by omega
      obtain ⟨q0, hq0⟩ : ∃ q, S k = q := ⟨_, rfl⟩
      rw [hq0]
      cases q0 with
      | true =>
        have HF := Lib.hid (HS.out k hq0 (by omega))
        clear hq0
        go_wp2
        go_roundw
        case rel => exact ⟨k + 1, by omega, by go_num, by rw [HF.out], hb⟩
        case measure => simp [intOf]; omega
      | false =>
        have hSr := HT0.out.below (grows hbw hb)
        obtain ⟨g, o, rfl, _, _⟩ := hSr.cells (k := k) (by omega)
        obtain ⟨x, hx⟩ : ∃ x, ts[k]? = some x := ⟨_, List.getElem?_eq_getElem (by omega)⟩
        have hS1 := srow_at hSr k hx
        obtain ⟨q, hq, hcall⟩ := HO.out k x _ _ hx (trow_one wr (key, false, [x]) _ 51 hS1) (HP.out.below (grows (grows hbw hb) (grew wr _)))
        have HC := Lib.hid hcall
        have HQ : Hid (S (k + 1) = q) := Lib.hid (by rw [hq, hq0]; rfl)
        have hck : ¬ cap = k := by omega
        have hkc : (k : Int) + 1 ≤ (cap : Int) := by omega
        have hk1 : (k : Int) ≤ (k : Int) + 1 := by omega
        clear hq hcall hq0 hx hSr hS1
        go_wp2_with fail
        refine HC.out.mono ?_
        rintro e w4 ⟨rfl, hb4⟩
        go_wp2
        go_roundw
        case rel => exact ⟨k + 1, by omega, by go_num, by rw [HQ.out], grows hb (grows (grew wr _) hb4)⟩
        case measure => simp [intOf]; omega
    · obtain rfl : k = m := by omega
      obtain ⟨sm, hsm⟩ : ∃ q, S k = q := ⟨_, rfl⟩
      rw [hsm] at HSY ⊢
      have hbx := grows hbw hb
      obtain ⟨x, hfx⟩ := HFi.out wr (HP.out.below hbx)
      have HFx := Lib.hid hfx
      have HC4 := Lib.hid (keep HC3.out hb)
      have hltr := lt_of HC4.out
      clear hfx hsm
      go_wp2_with fail
      with_reducible refine HFx.out.mono ?_
      rintro e w4 ⟨rfl, hb4⟩
      have hC5 := keep HC4.out hb4
      have HC5 := Lib.hid hC5
      obtain ⟨c0, c1, c2, _⟩ := cells3 hC5
      have hb5 := grows hbx hb4
      have HT5 := Lib.hid (trow_one w4 (key, true, ts) (.slice a k cap) 51 (HT0.out.below hb5))
      clear hC5 hb4
      go_wp2_with fail
      refine (HNy.out _ _ HT5.out (HP.out.below (grows hb5 (grew w4 _)))).mono ?_
      rintro e w5 ⟨rfl, hb6⟩
      have hb7 := grows (grows hb5 (grew w4 _)) hb6
      clear hb6 c0 c1 c2 HT5
      have HT6 := Lib.hid (trow_one w5 (key, false, []) (.slice none 0 0) 51 (SRow.nil _))
      cases yes with
      | true =>
        obtain rfl : has = true := HYH.out rfl
        by_cases hk0' : k = 0
        · subst hk0'
          go_wp2_with fail
          refine (HK.out _ _ HT6.out (HP.out.below (grows hb7 (grew w5 _)))).mono ?_
          rintro e w6 ⟨rfl, hb8⟩
          go_wp2
          go_ret
          exact ⟨rfl, grows (grows hb7 (grew w5 _)) hb8⟩
        · have hsm := HSY.out hk0'
          subst hsm
          have hkz : ((k : Int) == 0) = false := by rw [beq_eq_false_iff_ne]; omega
          go_wp2_with fail
          refine (HK.out _ _ HT6.out (HP.out.below (grows hb7 (grew w5 _)))).mono ?_
          rintro e w6 ⟨rfl, hb8⟩
          go_wp2
          go_ret
          exact ⟨rfl, grows (grows hb7 (grew w5 _)) hb8⟩
      | false =>
        by_cases hk0' : k = 0
        · subst hk0'
          cases has with
          | true =>
            go_wp2_with fail
            refine (HK.out _ _ HT6.out (HP.out.below (grows hb7 (grew w5 _)))).mono ?_
            rintro e w6 ⟨rfl, hb8⟩
            go_wp2
            go_ret
            exact ⟨rfl, grows (grows hb7 (grew w5 _)) hb8⟩
          | false =>
            go_wp2_with fail
            refine (HK.out _ _ HT6.out (HP.out.below (grows hb7 (grew w5 _)))).mono ?_
            rintro e w6 ⟨rfl, hb8⟩
            go_wp2
            go_ret
            exact ⟨rfl, grows (grows hb7 (grew w5 _)) hb8⟩
        · have hsm := HSY.out hk0'
          subst hsm
          have hkz : ((k : Int) == 0) = false := by rw [beq_eq_false_iff_ne]; omega
          cases has with
          | true =>
            go_wp2_with fail
            refine (HK.out _ _ HT6.out (HP.out.below (grows hb7 (grew w5 _)))).mono ?_
            rintro e w6 ⟨rfl, hb8⟩
            go_wp2
            go_ret
            exact ⟨rfl, grows (grows hb7 (grew w5 _)) hb8⟩
          | false =>
            go_wp2_with fail
            refine (HK.out _ _ HT6.out (HP.out.below (grows hb7 (grew w5 _)))).mono ?_
            rintro e w6 ⟨rfl, hb8⟩
            go_wp2
            go_ret
            exact ⟨rfl, grows (grows hb7 (grew w5 _)) hb8⟩

open Go.ChangeShapes Go.WideShapes Go.ChangeAt
set_option maxRecDepth 100000 in
theorem lifted (os : Os) (started : os.Started) (H : Type) (enc : TypeId × Value → H) :
    ReturnsInHanded {} Tryd.checked os 6 .any (fun w args => (Rows.selTurnsSpec.pre enc Tryd.prog Tryd.f6 Rows.selTurnsRow.domain false w args ∧ laidMetH Tryd.prog Rows.selTurnsRow.laid w) ∧ sizedMet enc Tryd.prog Tryd.f6 (OpenSpec.ofChange Rows.selTurnsSpec) false w args)
      (Rows.selTurnsSpec.post enc Tryd.prog Tryd.f6 false true false false) := by
  refine returnsInHanded_of_change_and (C := Tryd.checked) (X := fun w _ => laidMetH Tryd.prog Rows.selTurnsRow.laid w) (fun _ _ _ hh h => h.of_heap hh) Ends.own started (by kernel_rfl) Tryd.func6
    (ChangeSpec.witness_shaped (enc := enc) (C := Tryd.checked) (os := os) (X := fun w _ => laidMetH Tryd.prog Rows.selTurnsRow.laid w) false (World.laidAll Tryd.prog os Rows.selTurnsRow.laid) #[.string ⟨#[]⟩, .slice none 0 0, .slice none 0 0] 8 (World.laidAll_os _ _ _)
      (World.shaped_of_ZipB (by kernel_rfl) (by kernel_rfl)) (by kernel_rfl) (by kernel_rfl) (by kernel_rfl)
      (by rw [MakeChecks.laidMetH_plain _ _ _ (by kernel_rfl)]; exact laidMet_laidAll _ (by kernel_rfl) (by kernel_rfl))) ?_
  intro W base args ds gs before hval0 hW _ hsz0 hL _
  have hval : ∀ (j : Nat) t v, Tryd.f6.params[j]? = some t → args[j]? = some v → Value.okWide Tryd.prog W .any base t v := hval0
  have hsz : (DataW.weightsEach Tryd.prog (Tryd.f6.params.toList ++ Rows.selTurnsSpec.plain.varTypes Tryd.prog) (ds ++ gs)).all (· ≤ reachBytes) = true := hsz0
  have hW' := hW
  obtain ⟨p, q, hA0, hV, rfl, hfz, hnd⟩ := hW
  have hA : DataW.TrodAll enc Tryd.prog W 0 (fun _ => true) true Tryd.f6.params.toList args.toList ds p := hA0
  rw [Tryd.params6] at hA hval hsz
  obtain ⟨v0, vs0, d0, ds0, p0, q0, hargs, rfl, rfl, h0, r0⟩ := trodAll_cons hA
  obtain ⟨v1, vs1, d1, ds1, p1, q1, rfl, rfl, rfl, h1, r1⟩ := trodAll_cons r0
  obtain ⟨v2, vs2, d2, ds2, p2, q2, rfl, rfl, rfl, h2, r2⟩ := trodAll_cons r1
  obtain ⟨rfl, rfl, rfl⟩ := trodAll_nil r2
  obtain rfl : args = #[v0, v1, v2] := by cases args; simp_all
  obtain ⟨rfl, rfl⟩ := trodVars_none hV
  obtain ⟨a0, rfl, rfl, rfl, w0⟩ := Go.ChangeMaps.open_string Tryd.underlying9 (hval 0 9 v0 rfl rfl) h0
  obtain ⟨a1, w1, g1⟩ := Texts.open_texts Tryd.underlying49 Tryd.underlying9 (by kernel_rfl) (hval 1 49 v1 rfl rfl) h1
  have q1 : ∀ n ∈ d1.weights Tryd.prog 49, n ≤ 140737488351232 := fun n hn => of_decide_eq_true (List.all_eq_true.1 hsz n (DataW.weights_mem_each (j := 1) rfl rfl n hn))
  have b1 := g1.reach (P := Tryd.prog) Tryd.underlying49 (by kernel_rfl) q1
  obtain ⟨a2, w2, b2⟩ := Label.open_pairs Tryd.underlying23 (f0 := (Tryd.prog.fieldsOf 56)[0]!) (f1 := (Tryd.prog.fieldsOf 56)[1]!) (by kernel_rfl) (by kernel_rfl) (by kernel_rfl) (by kernel_rfl) (by kernel_rfl) (by kernel_rfl) (by kernel_rfl) (by kernel_rfl) (by kernel_rfl) hsz (j := 2) rfl rfl (hval 2 23 v2 rfl rfl) h2
  have b0 : a0.size ≤ 140737488351232 := by have := sized_string hsz (j := 0) rfl rfl; rw [Array.length_toList] at this; exact this
  refine (walk a0 b0 v1 a1 b1.1 b1.2 v2 a2 b2 W (Sel.err_met (by kernel_rfl) hL) w1 w2).mono fun e W' ⟨he, hb⟩ => ?_
  subst he
  exact ⟨_, rfl, Ends.law_end Ends.laidOut (by rw [Tryd.params6]; decide +kernel) rfl (by kernel_rfl) Tryd.underlying4 hW' rfl hb⟩

theorem row : Rows.SelTurnsSaid :=
  OpenClaim.holds_of_wide 6 Tryd.f6 rfl rfl rfl rfl rfl rfl rfl ⟨rfl, rfl, rfl, rfl, rfl⟩ rfl rfl rfl rfl rfl (by kernel_rfl) Tryd.func6 (by kernel_rfl)
    (of_decide_eq_true (by kernel_rfl)) (by unfold Func.isWrapper; first | (rw [if_pos (by decide +kernel)]; kernel_rfl) | (rw [if_neg (by decide +kernel)]; exact ⟨rfl, rfl⟩))
    (fun os started H enc _ => lifted os started H enc)

/-- The statement: the tied card. -/
theorem proved : Rows.SelTurnsCardSaid :=
  Claim7.holds_tied_plain_at .later [] [.data, .sentinel, .pinned] true Rows.selTurnsCard.stood.harness true row (fun _ h => by cases h) (by kernel_rfl) (fun _ h => by cases h) selTurns_row_tie rfl ⟨rfl, rfl⟩ (by kernel_rfl) rfl
    (fun f fn hf hfn => by
      obtain rfl : f = 6 := Option.some.inj ((show Tryd.prog.funcNamed "demesne/demesnelaw05.SelTurns" = some 6 by kernel_rfl).symm.trans hf) |>.symm
      obtain rfl : fn = Tryd.f6 := (Option.some.inj (Tryd.func6.symm.trans hfn)).symm
      exact ⟨by kernel_rfl, fun j t ht => by
        rw [Tryd.params6] at ht
        have hm : t ∈ [9, 49, 23] := by simpa using Array.mem_of_getElem? ht
        have hall : ([9, 49, 23].all fun u => !Tryd.prog.wantsStandIn u) = true := by kernel_rfl
        exact (show Tryd.prog.wantsStandIn t = false by simpa using List.all_eq_true.1 hall t hm)⟩)
    (by kernel_rfl)
end Go.Proofs.YtcgknkbigbbfdaaDoor.selTurns
