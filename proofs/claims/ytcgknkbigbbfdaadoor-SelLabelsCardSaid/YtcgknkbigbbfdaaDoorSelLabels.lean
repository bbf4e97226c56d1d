/-
  demesnelaw05.SelLabels, for every input: what matches a label, and a value of it, is what has just that; labels of other keys turn nothing (the law answers true, and its arguments read as before).
  Conditions: none beyond the row's own (the reach; what the row lists, tied by the card).
-/
import Derived.Test.YtcgknkbigbbfdaaDoorSLits
import Derived.Test.YtcgknkbigbbfdaaDoorSErr
import Derived.Test.YtcgknkbigbbfdaaDoorEnd
import Derived.Test.YtcgknkbigbbfdaaDoorTie
import Derived.Test.YtcgknkbigbbfdaaDoorCards
import Derived.LaidMore
import Derived.Lay
import Derived.PlainAid
import Derived.SevenTiedAt
import Derived.Stop.Joined
namespace Go.Proofs.YtcgknkbigbbfdaaDoor.selLabels
open Go.RowKit Go.Proofs.YtcgknkbigbbfdaaDoor.Sel Go.Proofs.YtcgknkbigbbfdaaDoor.Texts Go.Proofs.YtcgknkbigbbfdaaDoor.Boxes Go.Proofs.YtcgknkbigbbfdaaDoor.Label

/-- What the law lays in memory. -/
def five (k v o x : ByteArray) (w : World) : World := ((((w.alloc (.cells #[.string v] 9)).alloc (.cells #[.string k, .bool false, .slice (some ⟨w.heap.size, 0, none⟩) 1 1] 51)).alloc (.cells #[.string k, .string v] 56)).alloc (.cells #[.string o, .string x, .string k, .string v] 56)).alloc (.cells #[.string o, .string x] 56)
theorem five_laid (k v o x : ByteArray) (w : World) : Below w.heap.size w (five k v o x w) ∧ TRow (five k v o x w) (.slice (some ⟨w.heap.size + 1, 0, none⟩) 1 1) [(k, false, [v])] ∧ Row (five k v o x w) (.slice (some ⟨w.heap.size + 1 + 1, 0, none⟩) 1 1) [(k, v)] ∧
    Row (five k v o x w) (.slice (some ⟨w.heap.size + 1 + 1 + 1, 0, none⟩) 2 2) [(o, x), (k, v)] ∧ Row (five k v o x w) (.slice (some ⟨w.heap.size + 1 + 1 + 1 + 1, 0, none⟩) 1 1) [(o, x)] := by
  have t := trow_one (w.alloc (.cells #[.string v] 9)) (k, false, [v]) (.slice (some ⟨w.heap.size, 0, none⟩) 1 1) 51 (srow_one w v _)
  have r1 := row_new ((w.alloc (.cells #[.string v] 9)).alloc (.cells #[.string k, .bool false, .slice (some ⟨w.heap.size, 0, none⟩) 1 1] 51)) [(k, v)] 56 (by simp)
  have r2 := row_new (((w.alloc (.cells #[.string v] 9)).alloc (.cells #[.string k, .bool false, .slice (some ⟨w.heap.size, 0, none⟩) 1 1] 51)).alloc (.cells #[.string k, .string v] 56)) [(o, x), (k, v)] 56 (by simp)
  have r3 := row_new ((((w.alloc (.cells #[.string v] 9)).alloc (.cells #[.string k, .bool false, .slice (some ⟨w.heap.size, 0, none⟩) 1 1] 51)).alloc (.cells #[.string k, .string v] 56)).alloc (.cells #[.string o, .string x, .string k, .string v] 56)) [(o, x)] 56 (by simp)
  simp only [size_alloc] at t r1 r2 r3
  exact ⟨grows (grows (grows (grows (grew w _) (grew _ _)) (grew _ _)) (grew _ _)) (grew _ _), t.below (grows (grows (grew _ _) (grew _ _)) (grew _ _)), r1.below (grows (grew _ _) (grew _ _)), r2.below (grew _ _), r3⟩

set_option maxHeartbeats 4000000 in
set_option maxRecDepth 100000 in
theorem walk_same (k v o x : ByteArray) (hk : k.size ≤ 140737488351232) (hv : v.size ≤ 140737488351232) (hko : (k.toList == o.toList) = true) (w : World) (hE : Err w) :
    Calls Tryd.prog 7 #[.string k, .string v, .string o, .string x] w fun e w' => e = .returned (.bool true) ∧ Below w.heap.size w w' := by
  obtain rfl : k = o := toList_inj (beq_iff_eq.1 hko)
  have HX := Lib.hid (examples_any w hE)
  have hF : Sel.Fair [(k, false, [v])] := fair_one (by simp; omega) (by simp) (fun y hy => by simp at hy; subst hy; omega)
  obtain ⟨b, hb⟩ : ∃ b, (v.toList == x.toList) = b := ⟨_, rfl⟩
  have HM1 : Hid (∀ t a W, TRow W t [(k, false, [v])] → Row W a [(k, v)] → Calls Tryd.prog 18 #[t, a] W fun e w' => e = .returned (.bool true) ∧ Below W.heap.size W w') := Lib.hid fun t a W h1 h2 => by
    have := match_any t _ a _ W h1 hF h2 (by simp)
    rw [match_one, find_same, holds_one] at this
    simpa using this
  have HM2 : Hid (∀ t a W, TRow W t [(k, false, [v])] → Row W a [(k, x)] → Calls Tryd.prog 18 #[t, a] W fun e w' => e = .returned (.bool b) ∧ Below W.heap.size W w') := Lib.hid fun t a W h1 h2 => by
    have := match_any t _ a _ W h1 hF h2 (by simp)
    rw [match_one, find_same, holds_one, hb] at this
    exact this
  have hbb : (b == b) = true := by simp
  clear hE hF
  go_enter Tryd.func7, Tryd.ntmps7
  go_wp2_with fail
  with_reducible refine HX.out.mono ?_
  rintro e w1 ⟨rfl, hb1⟩
  go_wp2_with fail
  obtain ⟨hb5, ht, hr1, _, hr3⟩ := five_laid k v k x w1
  refine (HM1.out _ _ (five k v k x w1) ht hr1).mono ?_
  rintro e w2 ⟨rfl, hb2⟩
  have HT2 := Lib.hid (ht.below hb2)
  have HR2 := Lib.hid (hr3.below hb2)
  have hb' := grows (grows hb1 hb5) hb2
  clear ht hr1 hr3 hb2 hb5 hb1
  go_wp2_with fail
  refine (HM2.out _ _ _ HT2.out HR2.out).mono ?_
  rintro e w3 ⟨rfl, hb3⟩
  go_wp2
  go_ret
  exact ⟨rfl, grows hb' hb3⟩

set_option maxHeartbeats 4000000 in
set_option maxRecDepth 100000 in
theorem walk_other (k v o x : ByteArray) (hk : k.size ≤ 140737488351232) (hv : v.size ≤ 140737488351232) (hko : (k.toList == o.toList) = false) (w : World) (hE : Err w) :
    Calls Tryd.prog 7 #[.string k, .string v, .string o, .string x] w fun e w' => e = .returned (.bool true) ∧ Below w.heap.size w w' := by
  have hok : (o.toList == k.toList) = false := by rw [Bool.beq_comm]; exact hko
  have HX := Lib.hid (examples_any w hE)
  have hF : Sel.Fair [(k, false, [v])] := fair_one (by simp; omega) (by simp) (fun y hy => by simp at hy; subst hy; omega)
  have HM1 : Hid (∀ t a W, TRow W t [(k, false, [v])] → Row W a [(k, v)] → Calls Tryd.prog 18 #[t, a] W fun e w' => e = .returned (.bool true) ∧ Below W.heap.size W w') := Lib.hid fun t a W h1 h2 => by
    have := match_any t _ a _ W h1 hF h2 (by simp)
    rw [match_one, find_same, holds_one] at this
    simpa using this
  have HM2 : Hid (∀ t a W, TRow W t [(k, false, [v])] → Row W a [(o, x), (k, v)] → Calls Tryd.prog 18 #[t, a] W fun e w' => e = .returned (.bool true) ∧ Below W.heap.size W w') := Lib.hid fun t a W h1 h2 => by
    have := match_any t _ a _ W h1 hF h2 (by simp)
    rw [match_one, find_other hok, find_same, holds_one] at this
    simpa using this
  have HM3 : Hid (∀ t a W, TRow W t [(k, false, [v])] → Row W a [(o, x)] → Calls Tryd.prog 18 #[t, a] W fun e w' => e = .returned (.bool false) ∧ Below W.heap.size W w') := Lib.hid fun t a W h1 h2 => by
    have := match_any t _ a _ W h1 hF h2 (by simp)
    rw [match_one, find_other hok, find_nil, holds_nil] at this
    exact this
  have HM4 : Hid (∀ t W, TRow W t [(k, false, [v])] → Calls Tryd.prog 18 #[t, .slice none 0 0] W fun e w' => e = .returned (.bool false) ∧ Below W.heap.size W w') := Lib.hid fun t W h1 => by
    have := match_any t _ _ [] W h1 hF (row_none W) (by simp)
    rw [match_one, find_nil, holds_nil] at this
    exact this
  clear hE hF hok
  go_enter Tryd.func7, Tryd.ntmps7
  go_wp2_with fail
  with_reducible refine HX.out.mono ?_
  rintro e w1 ⟨rfl, hb1⟩
  go_wp2_with fail
  obtain ⟨hb5, ht, hr1, hr2, hr3⟩ := five_laid k v o x w1
  refine (HM1.out _ _ (five k v o x w1) ht hr1).mono ?_
  rintro e w2 ⟨rfl, hb2⟩
  have HT2 := Lib.hid (ht.below hb2)
  have HR2 := Lib.hid (hr2.below hb2)
  have HR3 := Lib.hid (hr3.below hb2)
  have hb' := grows (grows hb1 hb5) hb2
  clear ht hr1 hr2 hr3 hb2 hb5 hb1
  go_wp2_with fail
  refine (HM2.out _ _ _ HT2.out HR2.out).mono ?_
  rintro e w3 ⟨rfl, hb3⟩
  have HT3 := Lib.hid (HT2.out.below hb3)
  have HR4 := Lib.hid (HR3.out.below hb3)
  go_wp2_with fail
  refine (HM3.out _ _ _ HT3.out HR4.out).mono ?_
  rintro e w4 ⟨rfl, hb4⟩
  have HT4 := Lib.hid (HT3.out.below hb4)
  go_wp2_with fail
  refine (HM4.out _ _ HT4.out).mono ?_
  rintro e w5 ⟨rfl, hb5⟩
  go_wp2
  go_ret
  exact ⟨rfl, grows (grows (grows hb' hb3) hb4) hb5⟩

theorem walk (k : ByteArray) (hk : k.size ≤ 140737488351232) (v : ByteArray) (hv : v.size ≤ 140737488351232) (o : ByteArray) (_ : o.size ≤ 140737488351232) (x : ByteArray) (_ : x.size ≤ 140737488351232) (w : World) (hE : Err w) :
    Calls Tryd.prog 7 #[.string k, .string v, .string o, .string x] w fun e w' => e = .returned (.bool true) ∧ Below w.heap.size w w' := by
  cases h : (k.toList == o.toList) with
  | true => exact walk_same k v o x hk hv h w hE
  | false => exact walk_other k v o x hk hv h w hE

open Go.ChangeShapes Go.WideShapes Go.ChangeAt
set_option maxRecDepth 100000 in
theorem lifted (os : Os) (started : os.Started) (H : Type) (enc : TypeId × Value → H) :
    ReturnsInHanded {} Tryd.checked os 7 .any (fun w args => (Rows.selLabelsSpec.pre enc Tryd.prog Tryd.f7 Rows.selLabelsRow.domain false w args ∧ laidMetH Tryd.prog Rows.selLabelsRow.laid w) ∧ sizedMet enc Tryd.prog Tryd.f7 (OpenSpec.ofChange Rows.selLabelsSpec) false w args)
      (Rows.selLabelsSpec.post enc Tryd.prog Tryd.f7 false true false false) := by
  refine returnsInHanded_of_change_and (C := Tryd.checked) (X := fun w _ => laidMetH Tryd.prog Rows.selLabelsRow.laid w) (fun _ _ _ hh h => h.of_heap hh) Ends.own started (by kernel_rfl) Tryd.func7
    (ChangeSpec.witness_shaped (enc := enc) (C := Tryd.checked) (os := os) (X := fun w _ => laidMetH Tryd.prog Rows.selLabelsRow.laid w) false (World.laidAll Tryd.prog os Rows.selLabelsRow.laid) #[.string ⟨#[]⟩, .string ⟨#[]⟩, .string ⟨#[]⟩, .string ⟨#[]⟩] 8 (World.laidAll_os _ _ _)
      (World.shaped_of_ZipB (by kernel_rfl) (by kernel_rfl)) (by kernel_rfl) (by kernel_rfl) (by kernel_rfl)
      (by rw [MakeChecks.laidMetH_plain _ _ _ (by kernel_rfl)]; exact laidMet_laidAll _ (by kernel_rfl) (by kernel_rfl))) ?_
  intro W base args ds gs before hval0 hW _ hsz0 hL _
  have hval : ∀ (j : Nat) t v, Tryd.f7.params[j]? = some t → args[j]? = some v → Value.okWide Tryd.prog W .any base t v := hval0
  have hsz : (DataW.weightsEach Tryd.prog (Tryd.f7.params.toList ++ Rows.selLabelsSpec.plain.varTypes Tryd.prog) (ds ++ gs)).all (· ≤ reachBytes) = true := hsz0
  have hW' := hW
  obtain ⟨p, q, hA0, hV, rfl, hfz, hnd⟩ := hW
  have hA : DataW.TrodAll enc Tryd.prog W 0 (fun _ => true) true Tryd.f7.params.toList args.toList ds p := hA0
  rw [Tryd.params7] at hA hval hsz
  obtain ⟨v0, vs0, d0, ds0, p0, q0, hargs, rfl, rfl, h0, r0⟩ := trodAll_cons hA
  obtain ⟨v1, vs1, d1, ds1, p1, q1, rfl, rfl, rfl, h1, r1⟩ := trodAll_cons r0
  obtain ⟨v2, vs2, d2, ds2, p2, q2, rfl, rfl, rfl, h2, r2⟩ := trodAll_cons r1
  obtain ⟨v3, vs3, d3, ds3, p3, q3, rfl, rfl, rfl, h3, r3⟩ := trodAll_cons r2
  obtain ⟨rfl, rfl, rfl⟩ := trodAll_nil r3
  obtain rfl : args = #[v0, v1, v2, v3] := by cases args; simp_all
  obtain ⟨rfl, rfl⟩ := trodVars_none hV
  obtain ⟨a0, rfl, rfl, rfl, w0⟩ := Go.ChangeMaps.open_string Tryd.underlying9 (hval 0 9 v0 rfl rfl) h0
  obtain ⟨a1, rfl, rfl, rfl, w1⟩ := Go.ChangeMaps.open_string Tryd.underlying9 (hval 1 9 v1 rfl rfl) h1
  obtain ⟨a2, rfl, rfl, rfl, w2⟩ := Go.ChangeMaps.open_string Tryd.underlying9 (hval 2 9 v2 rfl rfl) h2
  obtain ⟨a3, rfl, rfl, rfl, w3⟩ := Go.ChangeMaps.open_string Tryd.underlying9 (hval 3 9 v3 rfl rfl) h3
  have b0 : a0.size ≤ 140737488351232 := by have := sized_string hsz (j := 0) rfl rfl; rw [Array.length_toList] at this; exact this
  have b1 : a1.size ≤ 140737488351232 := by have := sized_string hsz (j := 1) rfl rfl; rw [Array.length_toList] at this; exact this
  have b2 : a2.size ≤ 140737488351232 := by have := sized_string hsz (j := 2) rfl rfl; rw [Array.length_toList] at this; exact this
  have b3 : a3.size ≤ 140737488351232 := by have := sized_string hsz (j := 3) rfl rfl; rw [Array.length_toList] at this; exact this
  refine (walk a0 b0 a1 b1 a2 b2 a3 b3 W (Sel.err_met (by kernel_rfl) hL)).mono fun e W' ⟨he, hb⟩ => ?_
  subst he
  exact ⟨_, rfl, Ends.law_end Ends.laidOut (by rw [Tryd.params7]; decide +kernel) rfl (by kernel_rfl) Tryd.underlying4 hW' rfl hb⟩

theorem row : Rows.SelLabelsSaid :=
  OpenClaim.holds_of_wide 7 Tryd.f7 rfl rfl rfl rfl rfl rfl rfl ⟨rfl, rfl, rfl, rfl, rfl⟩ rfl rfl rfl rfl rfl (by kernel_rfl) Tryd.func7 (by kernel_rfl)
    (of_decide_eq_true (by kernel_rfl)) (by unfold Func.isWrapper; first | (rw [if_pos (by decide +kernel)]; kernel_rfl) | (rw [if_neg (by decide +kernel)]; exact ⟨rfl, rfl⟩))
    (fun os started H enc _ => lifted os started H enc)

/-- The statement: the tied card. -/
theorem proved : Rows.SelLabelsCardSaid :=
  Claim7.holds_tied_plain_at .later [] [.data, .sentinel, .pinned] true Rows.selLabelsCard.stood.harness true row (fun _ h => by cases h) (by kernel_rfl) (fun _ h => by cases h) selLabels_row_tie rfl ⟨rfl, rfl⟩ (by kernel_rfl) rfl
    (fun f fn hf hfn => by
      obtain rfl : f = 7 := Option.some.inj ((show Tryd.prog.funcNamed "demesne/demesnelaw05.SelLabels" = some 7 by kernel_rfl).symm.trans hf) |>.symm
      obtain rfl : fn = Tryd.f7 := (Option.some.inj (Tryd.func7.symm.trans hfn)).symm
      exact ⟨by kernel_rfl, fun j t ht => by
        rw [Tryd.params7] at ht
        have hm : t ∈ [9, 9, 9, 9] := by simpa using Array.mem_of_getElem? ht
        have hall : ([9, 9, 9, 9].all fun u => !Tryd.prog.wantsStandIn u) = true := by kernel_rfl
        exact (show Tryd.prog.wantsStandIn t = false by simpa using List.all_eq_true.1 hall t hm)⟩)
    (by kernel_rfl)
end Go.Proofs.YtcgknkbigbbfdaaDoor.selLabels
