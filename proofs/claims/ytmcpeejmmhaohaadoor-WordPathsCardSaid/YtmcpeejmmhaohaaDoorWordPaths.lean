/- Proved: demesnelaw02.WordPaths answers true for every slice of slices of bytes, and leaves it as it was. Its row lists two tables of Go's library (utf8.first, utf8.acceptRanges) as they are laid; the call reads neither. -/
import Derived.Test.YtmcpeejmmhaohaaDoorWMaker
import Derived.Test.YtmcpeejmmhaohaaDoorWGlue
import Derived.Test.YtmcpeejmmhaohaaDoorEnd
import Derived.Test.YtmcpeejmmhaohaaDoorTie
import Derived.Test.YtmcpeejmmhaohaaDoorCards
import Derived.LaidMore
import Derived.Lay
import Derived.SevenTiedAt
import Derived.Stop.Joined
import Derived.Deep.RegionHeld3
namespace Go.Proofs.YtmcpeejmmhaohaaDoor.wordPaths
open Go.RowKit Go.Proofs.YtmcpeejmmhaohaaDoor.Word Go.Proofs.YtmcpeejmmhaohaaDoor.Args

theorem own_below {w w' : World} {B n : Nat} {e : TypeId} {sz : Nat} {v : Value} {xs : List Value} (h : w.ownsRow B e sz v n xs) (hb : Below w.heap.size w w') : w'.ownsRow B e sz v n xs := by
  refine ⟨h.1, ?_⟩
  have h' := h
  rcases h.2 with h0 | ⟨g, cap, cur, hv, h1, h2, h3⟩
  · exact .inl h0
  · refine .inr ⟨g, cap, cur, hv, h1, ?_, h3⟩
    rw [hb.block g (h'.lt g (by rw [hv]; rfl)).2]
    exact h2

theorem ahead (c : UInt8) (m : List UInt8) : ((⟨#[c]⟩ : ByteArray) ++ str m).data.toList = c :: m := by simp [str]
theorem behind (c : UInt8) (m : List UInt8) : (str m ++ (⟨#[c]⟩ : ByteArray)).data.toList = m ++ [c] := by simp [str]
theorem glue_take_len {ns : List (List UInt8)} (h : ∀ a ∈ ns, right a = true) (h3 : ns.length ≤ 3) (k : Nat) : (str (glue (ns.take k))).size ≤ 99 := by
  rw [str_size]
  have h1 := glue_len (ns.take k) (fun a ha => (right_free (h a (List.mem_of_mem_take ha))).2)
  have h2 := List.length_take_le' k ns
  omega

set_option maxRecDepth 100000 in
set_option maxHeartbeats 8000000 in
theorem walk (v : Value) (bss : List (List UInt8)) (w : World) (hv : ByteRows w v bss) :
    Calls Tryd.prog 6 #[v] w fun e w' => e = .returned (.bool true) ∧ Below w.heap.size w w' := by
  obtain ⟨i0, hi, hz0, hz1, hz2⟩ := info_parts info9
  have HV := Lib.hid hv
  obtain ⟨o, cap, rfl, hm, _⟩ := hv
  unfold maxLen at hm
  obtain ⟨ns, hns⟩ : ∃ ns, ns = names bss := ⟨_, rfl⟩
  have hlen : ns.length = min bss.length 3 := by rw [hns]; simp [names]; omega
  have hmi : min (bss.length : Int) 3 = (ns.length : Int) := by omega
  have h3 : ns.length ≤ 3 := by omega
  have hle : ns.length ≤ bss.length := by omega
  have HR : Hid (∀ a ∈ ns, right a = true) := Lib.hid (fun a ha => names_right (l := bss) (by rw [← hns]; exact ha))
  have HE : Hid (∀ k (h : k < ns.length) (h' : k < bss.length), ns[k] = made bss[k]) := Lib.hid (fun k h h' => by subst hns; simp [names])
  clear hlen hns
  go_enter Tryd.func6, Tryd.ntmps6
  go_wp2_with fail
  refine (examples_any _).mono ?_
  rintro e w1 ⟨rfl, hb1⟩
  have HV1 := Lib.hid (HV.out.below hb1)
  clear HV
  go_wp2_with fail
  clear hmi
  go_loopw [4, 5, 7] (fun p t i wr => ∃ k : Nat, k ≤ ns.length ∧ p = .string (str (glue (ns.take k))) ∧ i = .int .i64 k ∧ wr.ownsRow w1.heap.size 9 1 t k (strs (upsOf [] (ns.take k))) ∧ (k = 0 → t = .slice none 0 0) ∧ Below w1.heap.size w1 wr) (fun _ _ i _ => ns.length - (intOf i).toNat)
  case atStart => exact ⟨0, Nat.zero_le _, rfl, rfl, World.ownsRow_nil _ _ _ _, fun _ => rfl, Below.refl _ _⟩
  case round =>
    obtain ⟨k, hk, rfl, rfl, hown, hnil, hb⟩ := hrel
    have HN := Lib.hid hnil
    clear hnil
    by_cases hlt : k < ns.length
    · obtain ⟨o', cap', ho, _, hc⟩ := HV1.out
      obtain ⟨b, off, rfl, hbl, hc⟩ := hc (by intro h; rw [h, List.length_nil] at hle; omega)
      have hlb : k < bss.length := by omega
      obtain ⟨u, hu, hbu⟩ := hc k hlb
      obtain ⟨rfl, rfl⟩ : o = some ⟨b, off, none⟩ ∧ cap = cap' := by injection ho with h1 _ h2; exact ⟨h1, h2⟩
      have hcl : wr.cell? ⟨b, off + k, none⟩ = some u := by rw [hb.cell hbl]; exact hu
      have HBU : Hid (Bytes wr u bss[k]) := Lib.hid (by
        refine hbu.below ?_
        exact hb)
      have HM := Lib.hid (fun w => made_any u bss[k] w)
      rw [← HE.out k hlt hlb] at HM
      obtain ⟨p, hp⟩ : ∃ p, p = ns[k] := ⟨_, rfl⟩
      rw [← hp] at HM
      have hpl : (str p).size ≤ 32 := by rw [hp, str_size]; exact (right_free (HR.out _ (List.getElem_mem hlt))).2
      have HT := Lib.hid (take_glue hlt)
      have HU := Lib.hid (ups_take hlt)
      rw [← hp] at HT
      have hqs := glue_take_len HR.out h3 k
      obtain ⟨q, hq⟩ : ∃ q, q = str (glue (ns.take k)) := ⟨_, rfl⟩
      have HQ := Lib.hid hq
      rw [← hq] at hqs ⊢
      clear hp hq hu hbu hc ho
      have hk0 : k = 0 ∨ 0 < k := by omega
      rcases hk0 with rfl | hk0
      · have hcl0 : wr.cell? ⟨b, off, none⟩ = some u := hcl
        clear hcl
        go_wp2_with fail
        refine (HM.out _ HBU.out).mono ?_
        rintro e w3 ⟨rfl, hb3⟩
        have hown3 := own_below hown hb3
        have hb' := hb.trans (hb3.mono hb.size)
        clear hown hb3 hb hcl0
        go_wp2_with (at_builtin; refine wpList_append_own _ rfl _ _ 26 rfl w1.heap.size 9 i0 (.string ByteArray.empty) 1 16 Tryd.underlying26 hi hz0 hz1 hz2 rfl (by decide) _ _ _ rfl (hown3.alloc _) ⟨w3.heap.size, 0, none⟩ 1 1 [.string (q ++ str p)] rfl rfl ?c1 ?c2 ?c3 ?c4 ?c5 ?_)
        case c1 => exact cell_one_new _ _ _
        case c2 => intro u hu; simp at hu; subst hu; rfl
        case c3 => unfold maxLen; omega
        case c4 => omega
        case c5 => have := hb'.size; simp; omega
        intro v' w4 hown' hgrow _
        have hown4 : w4.ownsRow w1.heap.size 9 1 v' (0 + 1) (strs (upsOf [] (ns.take (0 + 1)))) := by
          rw [HU.out, strs_snoc]
          rw [HT.out]
          have : q ++ str p = str p := by rw [HQ.out, List.take_zero, glue, str_append]; rfl
          rw [this] at hown'
          simpa using hown'
        have hb4 : Below w1.heap.size w1 w4 := (hb'.alloc hb'.size _).grown hgrow (by have := hb'.size; simp; omega) (fun k hk => (hown3.lt k hk).1)
        clear hown3 hown' hgrow
        go_wp2
        go_roundw
        case rel =>
          refine ⟨0 + 1, by omega, ?_, by go_num, hown4, fun h => by omega, hb4⟩
          rw [HT.out, HQ.out]
          congr 1
        case measure => simp [intOf]; omega
      · go_wp2_with fail
        refine (HM.out _ HBU.out).mono ?_
        rintro e w3 ⟨rfl, hb3⟩
        have hown3 := own_below hown hb3
        have hb' := hb.trans (hb3.mono hb.size)
        clear hown hb3 hb hcl
        go_wp2_with (at_builtin; refine wpList_append_own _ rfl _ _ 26 rfl w1.heap.size 9 i0 (.string ByteArray.empty) 1 16 Tryd.underlying26 hi hz0 hz1 hz2 rfl (by decide) _ _ _ rfl (hown3.alloc _) ⟨w3.heap.size, 0, none⟩ 1 1 [.string (q ++ ⟨#[47]⟩ ++ str p)] rfl rfl ?d1 ?d2 ?d3 ?d4 ?d5 ?_)
        case d1 => exact cell_one_new _ _ _
        case d2 => intro u hu; simp at hu; subst hu; rfl
        case d3 => unfold maxLen; omega
        case d4 => omega
        case d5 => have := hb'.size; simp; omega
        intro v' w4 hown' hgrow _
        have hstr : q ++ ⟨#[47]⟩ ++ str p = str (glue (ns.take (k + 1))) := by
          rw [HT.out, if_neg (by omega), HQ.out, show (⟨#[47]⟩ : ByteArray) = str [47] from rfl, str_append, str_append]
          simp
        have HSTR := Lib.hid hstr
        have hown4 : w4.ownsRow w1.heap.size 9 1 v' (k + 1) (strs (upsOf [] (ns.take (k + 1)))) := by
          rw [HU.out, strs_snoc, ← hstr]
          exact hown'
        have hb4 : Below w1.heap.size w1 w4 := (hb'.alloc hb'.size _).grown hgrow (by have := hb'.size; simp; omega) (fun k hk => (hown3.lt k hk).1)
        clear hown3 hown' hgrow hstr
        go_wp2
        go_roundw
        case rel =>
          refine ⟨k + 1, by omega, ?_, by go_num, hown4, fun h => by omega, hb4⟩
          rw [← HSTR.out]
        case measure => simp [intOf]; omega
    · have hkn : k = ns.length := by omega
      have HK := Lib.hid (show str (glue (ns.take k)) = str (glue ns) by rw [hkn, List.take_length])
      have hq := glue_take_len HR.out h3 k
      rw [HK.out] at hq ⊢
      have hown' : wr.ownsRow w1.heap.size 9 1 u5 ns.length (strs (upsOf [] ns)) := by rw [hkn, List.take_length] at hown; exact hown
      have hu5 : Hid (Holds wr u5 (upsOf [] ns)) := Lib.hid (by
        by_cases h0 : ns = []
        · exact .inl ⟨by rw [h0]; rfl, HN.out (by rw [hkn, h0]; rfl)⟩
        · exact own_holds (by rw [upsOf_length]) (fun h => h0 (by have := congrArg List.length h; rw [upsOf_length] at this; exact List.eq_nil_of_length_eq_zero this)) hown')
      have HPa := Lib.hid (fun w => parts_is (str (glue ns)) (by omega) ns (by rw [str_toList]; exact names_parts HR.out h3) w)
      have HUp := Lib.hid (fun w => ups_is (str (glue ns)) (by omega) (upsOf [] ns) (by rw [str_toList]; exact names_ups HR.out h3) w)
      have HSl := Lib.hid (fun w => parts_is (str (glue ns) ++ ⟨#[47]⟩) (by rw [ByteArray.size_append, show (⟨#[47]⟩ : ByteArray).size = 1 from rfl]; omega) [] (by rw [behind]; exact parts_slash _) w)
      have HAh := Lib.hid (fun w => parts_is ((⟨#[47]⟩ : ByteArray) ++ str (glue ns)) (by rw [ByteArray.size_append, show (⟨#[47]⟩ : ByteArray).size = 1 from rfl]; omega) [] (by rw [ahead]; exact parts_ahead _) w)
      have HX : Hid (ns ≠ [] → parts (str (glue ns) ++ (⟨#[47, 120]⟩ : ByteArray)).data.toList = if ns.length < 3 then ns ++ [[120]] else []) := Lib.hid (fun h => by
        rw [show (⟨#[47, 120]⟩ : ByteArray) = str [47, 120] from rfl, str_append, str_toList]
        exact names_more HR.out h h3)
      obtain ⟨q, hqq⟩ : ∃ q, q = str (glue ns) := ⟨_, rfl⟩
      rw [← hqq] at hq HPa HUp HSl HAh HX ⊢
      have hb2 := hb1.trans (hb.mono hb1.size)
      have HV2 := Lib.hid (HV1.out.below hb)
      clear hqq hown hown' HK HV1 hkn hb1 HN
      go_wp2_with fail
      refine (HPa.out _).mono ?_
      rintro e w2 ⟨vp, rfl, hvp, hb3⟩
      have HV3 := Lib.hid (HV2.out.below hb3)
      have HO3 := Lib.hid (hu5.out.below hb3)
      have hb4 := hb2.trans (hb3.mono hb2.size)
      clear hb2 hb3 HV2 hu5 hb
      have hvl : ∃ oa ca, vp = .slice oa ns.length ca := by
        rcases hvp with ⟨h, rfl⟩ | ⟨g, ca, rfl, _⟩
        · exact ⟨none, 0, by rw [h]; rfl⟩
        · exact ⟨_, _, rfl⟩
      have HVP := Lib.hid hvp
      obtain ⟨oa, ca, rfl⟩ := hvl
      clear hvp
      go_wp2_with fail
      refine (HUp.out _).mono ?_
      rintro e w3 ⟨vu, rfl, hvu, hb5⟩
      have HV4 := Lib.hid (HV3.out.below hb5)
      have HO4 := Lib.hid (HO3.out.below hb5)
      have HVP4 := Lib.hid (HVP.out.below hb5)
      have hb6 := hb4.trans (hb5.mono hb4.size)
      have HVU := Lib.hid hvu
      clear HV3 HO3 HVP hb4 hb5 hvu
      go_wp2_with fail
      refine (same_yes _ _ _ _ HVU.out HO4.out (by rw [upsOf_length]; omega)).mono ?_
      rintro e w4 ⟨rfl, hb7⟩
      have HV5 := Lib.hid (HV4.out.below hb7)
      have HVP5 := Lib.hid (HVP4.out.below hb7)
      have hb8 := hb6.trans (hb7.mono hb6.size)
      clear HV4 HO4 HVP4 hb6 hb7 HVU
      go_wp2_with fail
      go_loopw [9] (fun i x => ∃ k : Nat, k ≤ ns.length ∧ i = .int .i64 k ∧ Below w4.heap.size w4 x) (fun i _ => ns.length - (intOf i).toNat)
      case atStart => exact ⟨0, Nat.zero_le _, rfl, Below.refl _ _⟩
      case round =>
        obtain ⟨k, hk, rfl, hbx⟩ := hrel
        by_cases hlt : k < ns.length
        · obtain ⟨o', cap', ho, _, hc⟩ := HV5.out
          obtain ⟨b, off, rfl, hbl, hc⟩ := hc (by intro h; rw [h, List.length_nil] at hle; omega)
          have hlb : k < bss.length := by omega
          obtain ⟨u, hu, hbu⟩ := hc k hlb
          obtain ⟨rfl, rfl⟩ : o = some ⟨b, off, none⟩ ∧ cap = cap' := by injection ho with h1 _ h2; exact ⟨h1, h2⟩
          rcases HVP5.out with ⟨h, _⟩ | ⟨g, ca', hvv, hg, _, _, hgc⟩
          · rw [h] at hlt; simp at hlt
          obtain ⟨rfl, rfl⟩ : oa = some ⟨g, 0, none⟩ ∧ ca = ca' := by injection hvv with h1 _ h2; exact ⟨h1, h2⟩
          obtain ⟨p, hp⟩ : ∃ p, p = str ns[k] := ⟨_, rfl⟩
          have c1 : wr.cell? ⟨g, k, none⟩ = some (.string p) := by rw [hbx.cell hg, hgc k hlt, getD_lt hlt, hp]
          have c2 : wr.cell? ⟨b, off + k, none⟩ = some u := by rw [hbx.cell hbl]; exact hu
          have HBU : Hid (Bytes wr u bss[k]) := Lib.hid (hbu.below hbx)
          have HM := Lib.hid (fun w => made_any u bss[k] w)
          rw [← HE.out k hlt hlb, ← hp] at HM
          have hne : (p.toList != p.toList) = false := by simp
          have hlt' : (k : Int) < (ns.length : Int) := by omega
          have hlb' : (k : Int) < (bss.length : Int) := by omega
          have hk0 : (0 : Int) ≤ (k : Int) := by omega
          have hs0 : Below wr.heap.size wr wr.drew := (Below.refl _ _).drew
          clear hp hu hbu hc ho hvv hgc
          go_wp2_with fail
          go_region_held3 (fun x => x.cell? ⟨g, k, none⟩ = some (.string p) ∧ x.cell? ⟨b, off + k, none⟩ = some u ∧ Below wr.heap.size wr x)
            (first | exact ⟨c1, c2, hs0⟩ | exact ⟨c1, c2, (Below.refl _ _)⟩ | (refine ⟨?_, ?_, ?_⟩ <;> assumption))
            (first | (go_at_call 21; refine (HM.out _ (HBU.out.below (by assumption))).mono ?_; rintro e w5 ⟨rfl, hb9⟩; have hq5 : Below wr.heap.size wr w5 := hs0.trans (hb9.mono hs0.size); have q1 := (hq5.cell (World.block_lt_of_cell? _ _ c1)).trans c1; have q2 := (hq5.cell (World.block_lt_of_cell? _ _ c2)).trans c2))
          go_wp2
          go_roundw
          case rel => exact ⟨k + 1, by omega, by go_num, hbx.trans (hq5.mono hbx.size)⟩
          case measure => simp [intOf]; omega
        · have hbz := hb8.trans (hbx.mono hb8.size)
          clear hb8 hbx HV5 HVP5
          go_wp2_with fail
          (with_reducible refine (HSl.out _).mono ?_)
          rintro e w5 ⟨v5, rfl, hv5, hb9⟩
          rcases hv5 with ⟨_, rfl⟩ | ⟨_, _, _, _, h, _⟩
          · have hb' := grows hbz hb9
            clear hbz hb9
            go_wp2_with fail
            (with_reducible refine (HAh.out _).mono ?_)
            rintro e w6 ⟨v6, rfl, hv6, hb10⟩
            rcases hv6 with ⟨_, rfl⟩ | ⟨_, _, _, _, h, _⟩
            · have hb := grows hb' hb10
              clear hb' hb10
              by_cases h0 : ns.length = 0
              · have hd : ((ns.length : Int) == 0) = true := by rw [beq_iff_eq]; omega
                clear h0
                go_wp2
                go_ret
                exact ⟨rfl, hb⟩
              · have hd : ((ns.length : Int) == 0) = false := by rw [beq_eq_false_iff_ne]; omega
                have HX2 := Lib.hid (HX.out (fun h => h0 (by rw [h]; rfl)))
                clear h0 HX
                by_cases hn3 : ns.length < 3
                · have e3 : decide ((ns.length : Int) < 3) = true := decide_eq_true (by omega)
                  go_wp2_with fail
                  (with_reducible refine (parts_is (q ++ ⟨#[47, 120]⟩) (by rw [ByteArray.size_append, show (⟨#[47, 120]⟩ : ByteArray).size = 2 from rfl]; omega) (ns ++ [[120]]) (by rw [HX2.out, if_pos hn3]) _).mono ?_)
                  rintro e w7 ⟨v7, rfl, hv7, hb11⟩
                  have hb' := grows hb hb11
                  rcases hv7 with ⟨h, _⟩ | ⟨g7, c7, rfl, _⟩
                  · simp at h
                  · have hl7 : (ns ++ [[120]]).length = ns.length + 1 := by simp
                    rw [hl7]
                    clear hl7 hb hb11
                    have e4 : (((ns.length + 1 : Nat) : Int) == (ns.length : Int) + 1) = true := by rw [beq_iff_eq]; omega
                    go_wp2
                    go_ret
                    exact ⟨rfl, hb'⟩
                · have e3 : decide ((ns.length : Int) < 3) = false := decide_eq_false (by omega)
                  go_wp2_with fail
                  (with_reducible refine (parts_is (q ++ ⟨#[47, 120]⟩) (by rw [ByteArray.size_append, show (⟨#[47, 120]⟩ : ByteArray).size = 2 from rfl]; omega) [] (by rw [HX2.out, if_neg hn3]) _).mono ?_)
                  rintro e w7 ⟨v7, rfl, hv7, hb11⟩
                  have hb' := grows hb hb11
                  rcases hv7 with ⟨_, rfl⟩ | ⟨_, _, _, _, h, _⟩
                  · have e4 : ((0 : Int) == (ns.length : Int) + 1) = false := by rw [beq_eq_false_iff_ne]; omega
                    clear hb hb11
                    go_wp2
                    go_ret
                    exact ⟨rfl, hb'⟩
                  · exact absurd rfl h
            · exact absurd rfl h
          · exact absurd rfl h

open Go.ChangeShapes Go.WideShapes Go.ChangeAt
set_option maxRecDepth 100000 in
theorem lifted (os : Os) (started : os.Started) (H : Type) (enc : TypeId × Value → H) :
    ReturnsInHanded {} Tryd.checked os 6 .any (fun w args => (Rows.wordPathsSpec.pre enc Tryd.prog Tryd.f6 Rows.wordPathsRow.domain false w args ∧ laidMetH Tryd.prog Rows.wordPathsRow.laid w) ∧ sizedMet enc Tryd.prog Tryd.f6 (OpenSpec.ofChange Rows.wordPathsSpec) false w args)
      (Rows.wordPathsSpec.post enc Tryd.prog Tryd.f6 false true false false) := by
  refine returnsInHanded_of_change_and (C := Tryd.checked) (X := fun w _ => laidMetH Tryd.prog Rows.wordPathsRow.laid w) (fun _ _ _ hh h => h.of_heap hh) Ends.own started (by kernel_rfl) Tryd.func6
    (ChangeSpec.witness_shaped (enc := enc) (C := Tryd.checked) (os := os) (X := fun w _ => laidMetH Tryd.prog Rows.wordPathsRow.laid w) false (World.laidAll Tryd.prog os Rows.wordPathsRow.laid) #[.slice none 0 0] 8 (World.laidAll_os _ _ _)
      (World.shaped_of_ZipB (by kernel_rfl) (by kernel_rfl)) (by kernel_rfl) (by kernel_rfl) (by kernel_rfl)
      (by rw [MakeChecks.laidMetH_plain _ _ _ (by kernel_rfl)]; exact laidMet_laidAll _ (by kernel_rfl) (by kernel_rfl))) ?_
  intro W base args ds gs before hval0 hW _ _ _ _
  have hval : ∀ (j : Nat) t v, Tryd.f6.params[j]? = some t → args[j]? = some v → Value.okWide Tryd.prog W .any base t v := hval0
  have hW' := hW
  obtain ⟨p, q, hA0, hV, rfl, hfz, hnd⟩ := hW
  have hA : DataW.TrodAll enc Tryd.prog W 0 (fun _ => true) true Tryd.f6.params.toList args.toList ds p := hA0
  rw [Tryd.params6] at hA hval
  obtain ⟨v0, vs0, d0, ds0, p0, q0, hargs, rfl, rfl, h0, r0⟩ := trodAll_cons hA
  obtain ⟨rfl, rfl, rfl⟩ := trodAll_nil r0
  obtain rfl : args = #[v0] := by cases args; simp_all
  obtain ⟨rfl, rfl⟩ := trodVars_none hV
  obtain ⟨a0, w0⟩ := Args.open_rows Tryd.underlying33 Tryd.underlying29 Tryd.underlying5 (by kernel_rfl) (by kernel_rfl) (hval 0 33 v0 rfl rfl) h0
  refine (walk v0 a0 W w0).mono fun e W' ⟨he, hb⟩ => ?_
  subst he
  exact ⟨_, rfl, Ends.law_end Ends.laidOut (by rw [Tryd.params6]; decide +kernel) rfl (by kernel_rfl) Tryd.underlying4 hW' rfl hb⟩

theorem row : Rows.WordPathsSaid :=
  OpenClaim.holds_of_wide 6 Tryd.f6 rfl rfl rfl rfl rfl rfl rfl ⟨rfl, rfl, rfl, rfl, rfl⟩ rfl rfl rfl rfl rfl (by kernel_rfl) Tryd.func6 (by kernel_rfl)
    (of_decide_eq_true (by kernel_rfl)) (by unfold Func.isWrapper; first | (rw [if_pos (by decide +kernel)]; kernel_rfl) | (rw [if_neg (by decide +kernel)]; exact ⟨rfl, rfl⟩))
    (fun os started H enc _ => lifted os started H enc)

/-- The statement: the tied card. -/
theorem proved : Rows.WordPathsCardSaid :=
  Claim7.holds_tied_plain_at .later [] [.data, .pinned] true Rows.wordPathsCard.stood.harness false row (fun _ h => by cases h) (by kernel_rfl) (fun _ h => by cases h) wordPaths_row_tie rfl ⟨rfl, rfl⟩ (by kernel_rfl) rfl
    (fun f fn hf hfn => by
      obtain rfl : f = 6 := Option.some.inj ((show Tryd.prog.funcNamed "demesne/demesnelaw02.WordPaths" = some 6 by kernel_rfl).symm.trans hf) |>.symm
      obtain rfl : fn = Tryd.f6 := (Option.some.inj (Tryd.func6.symm.trans hfn)).symm
      exact ⟨by kernel_rfl, fun j t ht => by
        rw [Tryd.params6] at ht
        have hm : t ∈ [33] := by simpa using Array.mem_of_getElem? ht
        have hall : ([33].all fun u => !Tryd.prog.wantsStandIn u) = true := by kernel_rfl
        exact (show Tryd.prog.wantsStandIn t = false by simpa using List.all_eq_true.1 hall t hm)⟩)
    (by kernel_rfl)
end Go.Proofs.YtmcpeejmmhaohaaDoor.wordPaths
