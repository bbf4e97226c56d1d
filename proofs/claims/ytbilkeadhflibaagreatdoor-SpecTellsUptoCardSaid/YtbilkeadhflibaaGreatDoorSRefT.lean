/- What the document's own Text answers of any selector; of memory that was there nothing turns. -/
import Derived.Test.YtbilkeadhflibaaGreatDoorSRefR
import Derived.Test.YtbilkeadhflibaaGreatDoorJL4
namespace Go.Proofs.YtbilkeadhflibaaGreatDoor.Sel
open Go.RowKit Go.Proofs.YtbilkeadhflibaaGreatDoor.Texts Go.Proofs.YtbilkeadhflibaaGreatDoor.Word Go.Proofs.YtbilkeadhflibaaGreatDoor.Forms Go.Proofs.YtbilkeadhflibaaGreatDoor.Boxes

theorem glue_snoc (c : UInt8) : ∀ (ls : List (List UInt8)) (x : List UInt8), glueC c (ls ++ [x]) = if ls = [] then x else glueC c ls ++ c :: x
  | [], x => by rw [if_pos rfl]; rfl
  | [y], x => by rw [if_neg (by simp)]; rfl
  | y :: z :: ls, x => by
    have ih := glue_snoc c (z :: ls) x
    rw [if_neg (by simp)] at ih ⊢
    show y ++ c :: glueC c (z :: ls ++ [x]) = (y ++ c :: glueC c (z :: ls)) ++ c :: x
    rw [ih]
    simp
/-- What stands ahead of a term's values. -/
def preT (t : Tm) : List UInt8 :=
  if t.2.2 = [] then (if t.2.1 = true then 33 :: t.1.data.toList else t.1.data.toList)
  else t.1.data.toList ++ ((if t.2.1 = true then [33] else []) ++ [61])
theorem show_pre (t : Tm) : showT t = preT t ++ glueC 124 (t.2.2.map fun v => v.data.toList) := by
  unfold showT preT
  by_cases h : t.2.2 = []
  · rw [if_pos h, if_pos h, h]; simp [glueC]
  · rw [if_neg h, if_neg h]; simp
theorem pre_small {t : Tm} (h : t.1.size ≤ 32) : (preT t).length ≤ 34 := by
  rw [← size_list] at h
  unfold preT
  split
  · split
    · rw [List.length_cons]; omega
    · omega
  · rw [List.length_append, List.length_append]
    split
    · simp only [List.length_cons, List.length_nil]; omega
    · simp only [List.length_cons, List.length_nil]; omega
/-- What has been written ahead of a term. -/
def comS (ls : List Tm) (j : Nat) : List UInt8 := glueC 44 ((ls.take j).map showT) ++ (if j = 0 then [] else [44])
theorem comS_more {ls : List Tm} {j : Nat} {t : Tm} (ht : ls[j]? = some t) (hj : j ≤ ls.length) : comS ls j ++ showT t = glueC 44 ((ls.take (j + 1)).map showT) := by
  rw [List.take_add_one, ht]
  show _ = glueC 44 (List.map showT (ls.take j ++ [t]))
  rw [List.map_append, List.map_cons, List.map_nil, glue_snoc]
  unfold comS
  by_cases h : j = 0
  · subst h; simp [glueC]
  · have hne : (ls.take j).map showT ≠ [] := by
      intro e
      have := congrArg List.length e
      rw [List.length_map, List.length_take, List.length_nil] at this
      omega
    rw [if_neg h, if_neg hne]; simp

set_option maxHeartbeats 8000000 in
set_option maxRecDepth 100000 in
theorem refTextS_any (v : Value) (ls : List Tm) (w : World) (hv : TRow w v ls) (hl : Fair ls) :
    Calls Tryz.prog 87 #[v] w fun e w' => e = .returned (.string (textS ls)) ∧ Below w.heap.size w w' := by
  have HR := Lib.hid (refRightS_any v ls w hv hl)
  obtain ⟨q, hq⟩ : ∃ q, rightS ls = q := ⟨_, rfl⟩
  rw [hq] at HR
  have HV := Lib.hid hv
  obtain ⟨a, cap, rfl, _, _⟩ := hv.slice
  clear hv
  cases q with
  | false =>
    have HE : Hid (textS ls = ⟨#[63]⟩) := Lib.hid (by unfold textS; rw [if_neg (by rw [hq]; simp)])
    clear hq
    go_enter Tryz.func87, Tryz.ntmps87
    go_wp2_with fail
    with_reducible refine HR.out.mono ?_
    rintro e w1 ⟨rfl, hb⟩
    go_wp2
    go_ret
    exact ⟨by rw [HE.out]; rfl, hb⟩
  | true =>
    obtain ⟨h4, hts⟩ := rightS_parts hq
    have HTS := Lib.hid hts
    have HQ := Lib.hid hq
    have HAS : Hid (∀ k, (glueC 44 ((ls.take k).map showT)).length ≤ 810) := Lib.hid fun k => by
      have e1 := glue_show 44 (ls.take k) (fun t ht => hts t (List.mem_of_mem_take ht))
      have e2 : (ls.take k).length ≤ ls.length := by rw [List.length_take]; omega
      omega
    obtain ⟨F, hF⟩ : ∃ F : Nat → ByteArray, F = fun k => str (glueC 44 ((ls.take k).map showT)) := ⟨_, rfl⟩
    have HFE : Hid (∀ k, F k = str (glueC 44 ((ls.take k).map showT))) := Lib.hid fun k => by rw [hF]
    have hF0 : (⟨#[]⟩ : ByteArray) = F 0 := by rw [hF]; rfl
    have HF0 := Lib.hid hF0
    clear hq hts hF hF0
    go_enter Tryz.func87, Tryz.ntmps87
    go_wp2_with fail
    with_reducible refine HR.out.mono ?_
    rintro e w2 ⟨rfl, hb'⟩
    have HV2 := Lib.hid (HV.out.below hb')
    go_wp2_with fail
    go_loopw [3, 4] (fun acc i wr => ∃ j : Nat, j ≤ ls.length ∧ i = .int .i64 j ∧ acc = .string (F j) ∧ Below w2.heap.size w2 wr) (fun _ i _ => ls.length - (intOf i).toNat)
    case atStart => exact ⟨0, Nat.zero_le _, rfl, by rw [← HF0.out], Below.refl _ _⟩
    case round =>
      obtain ⟨wa, hwa⟩ : ∃ x, x = wr := ⟨_, rfl⟩
      subst hwa
      obtain ⟨j, hj, rfl, rfl, hbr⟩ := hrel
      by_cases hlt : j < ls.length
      · have hltz : (j : Int) < (ls.length : Int) := by omega
        have hj0 : (0 : Int) ≤ (j : Int) := by omega
        obtain ⟨g, o, rfl, hg, hcell⟩ := (HV2.out.below hbr).cells hlt
        obtain ⟨t, ht⟩ : ∃ t, ls[j]? = some t := ⟨_, List.getElem?_eq_getElem hlt⟩
        obtain ⟨c0, c1, s, c2, hs⟩ := hcell j t ht
        obtain ⟨sa, sc, rfl, _, _⟩ := hs.slice
        have hrt := HTS.out t (List.mem_of_getElem? ht)
        obtain ⟨h1, h2, h3, _⟩ := rightT_parts hrt
        have hk32 := name_size h1
        have H32 : Hid (∀ x ∈ t.2.2, x.size ≤ 32) := Lib.hid fun x hx => name_size (h3 x hx)
        have HS := Lib.hid hs
        obtain ⟨H, hH⟩ : ∃ H : Nat → ByteArray, H = fun m => str (comS ls j ++ (preT t ++ glueC 124 ((t.2.2.take m).map fun v => v.data.toList))) := ⟨_, rfl⟩
        have hzF : (F j).size ≤ 810 := by rw [HFE.out, str_len]; exact HAS.out j
        have HCL : Hid ((comS ls j).length ≤ 811) := Lib.hid (by
          have := HAS.out j
          unfold comS
          rw [List.length_append]
          split
          · simp only [List.length_nil]; omega
          · simp only [List.length_cons, List.length_nil]; omega)
        have HHZ : Hid (H 0 = str (comS ls j ++ preT t)) := Lib.hid (by rw [hH]; simp [glueC])
        have HA1 : Hid (∀ m x, t.2.2[m]? = some x → m = 0 → H m ++ x = H (m + 1)) := Lib.hid fun m x hx hm => by
          subst hm
          rw [hH]
          simp only
          rw [List.take_add_one, hx]
          apply ByteArray.ext
          simp [str, glueC]
        have HA2 : Hid (∀ m x, t.2.2[m]? = some x → ¬ m = 0 → H m ++ ⟨#[124]⟩ ++ x = H (m + 1)) := Lib.hid fun m x hx hm => by
          rw [hH]
          simp only
          have hlen : m < t.2.2.length := (List.getElem?_eq_some_iff.1 hx).1
          have hne : (t.2.2.take m).map (fun v => v.data.toList) ≠ [] := by
            intro e
            have := congrArg List.length e
            rw [List.length_map, List.length_take, List.length_nil] at this
            omega
          rw [List.take_add_one, hx, Option.toList_some, List.map_append, List.map_cons, List.map_nil, glue_snoc, if_neg hne]
          apply ByteArray.ext
          simp [str]
        have HAH : Hid (∀ m, (H m).size ≤ 1000) := Lib.hid fun m => by
          have e1 := HCL.out
          have e2 := pre_small (t := t) hk32
          have e3 := glue_small 124 (t.2.2.take m) (fun x hx => H32.out x (List.mem_of_mem_take hx))
          have e4 : (t.2.2.take m).length ≤ t.2.2.length := by rw [List.length_take]; omega
          rw [hH]; simp only; rw [str_len, List.length_append, List.length_append]; omega
        have HHE : Hid (H t.2.2.length = F (j + 1)) := Lib.hid (by rw [hH, HFE.out]; simp only; rw [List.take_length, ← show_pre, comS_more ht hj])
        have hl4 : t.2.2.length ≤ 4 := h2
        clear hs h1 h2 h3 ht hcell hrt hH
        obtain ⟨key, n, vs⟩ := t
        simp only at *
        obtain ⟨L, hL⟩ : ∃ L, L = vs.length := ⟨_, rfl⟩
        have HL := Lib.hid hL
        rw [← hL] at c2 HS HHE hl4
        clear hL
        by_cases hjz : j = 0
        · have y1 : ¬ (0 : Int) < (j : Int) := by omega
          have y2 : ¬ 0 < j := by omega
          have y3 : decide (0 < j) = false := decide_eq_false y2
          have y4 : decide ((0 : Int) < (j : Int)) = false := decide_eq_false y1
          obtain ⟨A, hA⟩ : ∃ A, A = F j := ⟨_, rfl⟩
          have HAe : Hid (str (comS ls j) = A) := Lib.hid (by rw [hA, HFE.out]; unfold comS; rw [if_pos hjz, List.append_nil])
          have hzA : A.size ≤ 811 := by rw [hA]; omega
          rw [← hA]
          clear hjz hA hzF
          by_cases hvz : vs = []
          · have hL0 : L = 0 := by rw [HL.out, hvz]; rfl
            have g1 : ((L : Int) == 0) = true := by simp [hL0]
            have g2 : (L == 0) = true := by simp [hL0]
            have g3 : decide (L = 0) = true := by simp [hL0]
            clear hL0
            cases n with
            | true =>
              obtain ⟨A1, hA1⟩ : ∃ x, x = A ++ ⟨#[33]⟩ := ⟨_, rfl⟩
              have HA1e := Lib.hid hA1
              have hH0 : Hid (A1 ++ key = H 0) := Lib.hid (by rw [hA1, HHZ.out, ← HAe.out]; apply ByteArray.ext; simp [str, preT, hvz])
              have hadd1 : ∀ w, Sem.run Tryz.prog (Op.stringOp .add A ⟨#[33]⟩) w = .ok (.string A1) w := fun w => by rw [HA1e.out]; exact run_string_add_sum w _ _ (by show A.size + 1 ≤ _; omega)
              have hadd2 : ∀ w, Sem.run Tryz.prog (Op.stringOp .add A1 key) w = .ok (.string (H 0)) w := fun w => by rw [← hH0.out]; exact run_string_add_sum w _ _ (by rw [HA1e.out, ByteArray.size_append]; show A.size + 1 + key.size ≤ _; omega)
              clear hA1
              go_wp2_with fail
              go_loopw [3, 6] (fun acc i wr => ∃ m : Nat, m ≤ L ∧ i = .int .i64 m ∧ acc = .string (H m) ∧ Below (World.alloc wa (.cells #[.string key, .bool true, .slice sa L sc] 108)).heap.size (World.alloc wa (.cells #[.string key, .bool true, .slice sa L sc] 108)) wr) (fun _ i _ => L - (intOf i).toNat)
              case atStart => exact ⟨0, Nat.zero_le _, rfl, rfl, Below.refl _ _⟩
              case round =>
                obtain ⟨m, hm, rfl, rfl, hbq⟩ := hrel
                obtain ⟨hB, e0, e1, e2⟩ := cell_new hbq
                have hbw := grows (grew wa _) hbq
                clear c0 c1 c2
                by_cases hml : m < L
                · have hmlz : (m : Int) < (L : Int) := by omega
                  have hm0 : (0 : Int) ≤ (m : Int) := by omega
                  obtain ⟨g2, o2, rfl, hg2, hcell2⟩ := (HS.out.below hbw).cells (by rw [← HL.out]; exact hml)
                  obtain ⟨x, hx⟩ : ∃ x, vs[m]? = some x := ⟨_, List.getElem?_eq_getElem (by rw [← HL.out]; exact hml)⟩
                  have hc := hcell2 m x hx
                  have hfs := HAH.out m
                  have hxs := H32.out x (List.mem_of_getElem? hx)
                  by_cases hmz : m = 0
                  · have hz1 : ¬ (0 : Int) < (m : Int) := by omega
                    have hz2 : ¬ 0 < m := by omega
                    have hz3 : decide (0 < m) = false := decide_eq_false hz2
                    have hz4 : decide ((0 : Int) < (m : Int)) = false := decide_eq_false hz1
                    have hadd8 : ∀ w, Sem.run Tryz.prog (Op.stringOp .add (H m) x) w = .ok (.string (H (m + 1))) w := fun w => by rw [← HA1.out m x hx hmz]; exact run_string_add_sum w _ _ (by omega)
                    clear hx hcell2 hmz
                    go_wp2
                    go_roundw
                    case rel => exact ⟨m + 1, by omega, by go_num, rfl, hbq⟩
                    case measure => simp [intOf]; omega
                  · have hz1 : (0 : Int) < (m : Int) := by omega
                    have hz2 : 0 < m := by omega
                    have hadd8 : ∀ w, Sem.run Tryz.prog (Op.stringOp .add (H m) ⟨#[124]⟩) w = .ok (.string (H m ++ ⟨#[124]⟩)) w := fun w => run_string_add_sum w _ _ (by show (H m).size + 1 ≤ _; omega)
                    have hadd9 : ∀ w, Sem.run Tryz.prog (Op.stringOp .add (H m ++ ⟨#[124]⟩) x) w = .ok (.string (H (m + 1))) w := fun w => by rw [← HA2.out m x hx hmz]; exact run_string_add_sum w _ _ (by rw [ByteArray.size_append]; show (H m).size + 1 + x.size ≤ _; omega)
                    obtain ⟨M, hM⟩ : ∃ M, M = H m ++ ⟨#[124]⟩ := ⟨_, rfl⟩
                    rw [← hM] at hadd8 hadd9
                    clear hx hcell2 hmz hM
                    go_wp2
                    go_roundw
                    case rel => exact ⟨m + 1, by omega, by go_num, rfl, hbq⟩
                    case measure => simp [intOf]; omega
                · obtain rfl : m = L := by omega
                  go_wp2
                  go_roundw
                  case rel => exact ⟨j + 1, by omega, by go_num, by rw [HHE.out], grows hbr hbw⟩
                  case measure => simp [intOf]; omega
            | false =>
              obtain ⟨A1, hA1⟩ : ∃ x, x = A := ⟨_, rfl⟩
              have HA1e := Lib.hid hA1
              have hH0 : Hid (A ++ key = H 0) := Lib.hid (by rw [HHZ.out, ← HAe.out]; apply ByteArray.ext; simp [str, preT, hvz])
              have hadd2 : ∀ w, Sem.run Tryz.prog (Op.stringOp .add A key) w = .ok (.string (H 0)) w := fun w => by rw [← hH0.out]; exact run_string_add_sum w _ _ (by omega)
              clear hA1
              go_wp2_with fail
              go_loopw [3, 6] (fun acc i wr => ∃ m : Nat, m ≤ L ∧ i = .int .i64 m ∧ acc = .string (H m) ∧ Below (World.alloc wa (.cells #[.string key, .bool false, .slice sa L sc] 108)).heap.size (World.alloc wa (.cells #[.string key, .bool false, .slice sa L sc] 108)) wr) (fun _ i _ => L - (intOf i).toNat)
              case atStart => exact ⟨0, Nat.zero_le _, rfl, rfl, Below.refl _ _⟩
              case round =>
                obtain ⟨m, hm, rfl, rfl, hbq⟩ := hrel
                obtain ⟨hB, e0, e1, e2⟩ := cell_new hbq
                have hbw := grows (grew wa _) hbq
                clear c0 c1 c2
                by_cases hml : m < L
                · have hmlz : (m : Int) < (L : Int) := by omega
                  have hm0 : (0 : Int) ≤ (m : Int) := by omega
                  obtain ⟨g2, o2, rfl, hg2, hcell2⟩ := (HS.out.below hbw).cells (by rw [← HL.out]; exact hml)
                  obtain ⟨x, hx⟩ : ∃ x, vs[m]? = some x := ⟨_, List.getElem?_eq_getElem (by rw [← HL.out]; exact hml)⟩
                  have hc := hcell2 m x hx
                  have hfs := HAH.out m
                  have hxs := H32.out x (List.mem_of_getElem? hx)
                  by_cases hmz : m = 0
                  · have hz1 : ¬ (0 : Int) < (m : Int) := by omega
                    have hz2 : ¬ 0 < m := by omega
                    have hz3 : decide (0 < m) = false := decide_eq_false hz2
                    have hz4 : decide ((0 : Int) < (m : Int)) = false := decide_eq_false hz1
                    have hadd8 : ∀ w, Sem.run Tryz.prog (Op.stringOp .add (H m) x) w = .ok (.string (H (m + 1))) w := fun w => by rw [← HA1.out m x hx hmz]; exact run_string_add_sum w _ _ (by omega)
                    clear hx hcell2 hmz
                    go_wp2
                    go_roundw
                    case rel => exact ⟨m + 1, by omega, by go_num, rfl, hbq⟩
                    case measure => simp [intOf]; omega
                  · have hz1 : (0 : Int) < (m : Int) := by omega
                    have hz2 : 0 < m := by omega
                    have hadd8 : ∀ w, Sem.run Tryz.prog (Op.stringOp .add (H m) ⟨#[124]⟩) w = .ok (.string (H m ++ ⟨#[124]⟩)) w := fun w => run_string_add_sum w _ _ (by show (H m).size + 1 ≤ _; omega)
                    have hadd9 : ∀ w, Sem.run Tryz.prog (Op.stringOp .add (H m ++ ⟨#[124]⟩) x) w = .ok (.string (H (m + 1))) w := fun w => by rw [← HA2.out m x hx hmz]; exact run_string_add_sum w _ _ (by rw [ByteArray.size_append]; show (H m).size + 1 + x.size ≤ _; omega)
                    obtain ⟨M, hM⟩ : ∃ M, M = H m ++ ⟨#[124]⟩ := ⟨_, rfl⟩
                    rw [← hM] at hadd8 hadd9
                    clear hx hcell2 hmz hM
                    go_wp2
                    go_roundw
                    case rel => exact ⟨m + 1, by omega, by go_num, rfl, hbq⟩
                    case measure => simp [intOf]; omega
                · obtain rfl : m = L := by omega
                  go_wp2
                  go_roundw
                  case rel => exact ⟨j + 1, by omega, by go_num, by rw [HHE.out], grows hbr hbw⟩
                  case measure => simp [intOf]; omega
          · have hL0 : ¬ L = 0 := by rw [HL.out]; intro h; exact hvz (List.eq_nil_of_length_eq_zero h)
            have g1 : ((L : Int) == 0) = false := by simp [hL0]
            have g2 : (L == 0) = false := by simp [hL0]
            have g3 : decide (L = 0) = false := by simp [hL0]
            clear hL0
            cases n with
            | true =>
              obtain ⟨A1, hA1⟩ : ∃ x, x = A ++ key := ⟨_, rfl⟩
              have HA1e := Lib.hid hA1
              have hH0 : Hid (A1 ++ ⟨#[33, 61]⟩ = H 0) := Lib.hid (by rw [hA1, HHZ.out, ← HAe.out]; apply ByteArray.ext; simp [str, preT, hvz])
              have hadd1 : ∀ w, Sem.run Tryz.prog (Op.stringOp .add A key) w = .ok (.string A1) w := fun w => by rw [HA1e.out]; exact run_string_add_sum w _ _ (by omega)
              have hadd2 : ∀ w, Sem.run Tryz.prog (Op.stringOp .add A1 ⟨#[33, 61]⟩) w = .ok (.string (H 0)) w := fun w => by rw [← hH0.out]; exact run_string_add_sum w _ _ (by rw [HA1e.out, ByteArray.size_append]; show A.size + key.size + 2 ≤ _; omega)
              clear hA1
              go_wp2_with fail
              go_loopw [3, 6] (fun acc i wr => ∃ m : Nat, m ≤ L ∧ i = .int .i64 m ∧ acc = .string (H m) ∧ Below (World.alloc wa (.cells #[.string key, .bool true, .slice sa L sc] 108)).heap.size (World.alloc wa (.cells #[.string key, .bool true, .slice sa L sc] 108)) wr) (fun _ i _ => L - (intOf i).toNat)
              case atStart => exact ⟨0, Nat.zero_le _, rfl, rfl, Below.refl _ _⟩
              case round =>
                obtain ⟨m, hm, rfl, rfl, hbq⟩ := hrel
                obtain ⟨hB, e0, e1, e2⟩ := cell_new hbq
                have hbw := grows (grew wa _) hbq
                clear c0 c1 c2
                by_cases hml : m < L
                · have hmlz : (m : Int) < (L : Int) := by omega
                  have hm0 : (0 : Int) ≤ (m : Int) := by omega
                  obtain ⟨g2, o2, rfl, hg2, hcell2⟩ := (HS.out.below hbw).cells (by rw [← HL.out]; exact hml)
                  obtain ⟨x, hx⟩ : ∃ x, vs[m]? = some x := ⟨_, List.getElem?_eq_getElem (by rw [← HL.out]; exact hml)⟩
                  have hc := hcell2 m x hx
                  have hfs := HAH.out m
                  have hxs := H32.out x (List.mem_of_getElem? hx)
                  by_cases hmz : m = 0
                  · have hz1 : ¬ (0 : Int) < (m : Int) := by omega
                    have hz2 : ¬ 0 < m := by omega
                    have hz3 : decide (0 < m) = false := decide_eq_false hz2
                    have hz4 : decide ((0 : Int) < (m : Int)) = false := decide_eq_false hz1
                    have hadd8 : ∀ w, Sem.run Tryz.prog (Op.stringOp .add (H m) x) w = .ok (.string (H (m + 1))) w := fun w => by rw [← HA1.out m x hx hmz]; exact run_string_add_sum w _ _ (by omega)
                    clear hx hcell2 hmz
                    go_wp2
                    go_roundw
                    case rel => exact ⟨m + 1, by omega, by go_num, rfl, hbq⟩
                    case measure => simp [intOf]; omega
                  · have hz1 : (0 : Int) < (m : Int) := by omega
                    have hz2 : 0 < m := by omega
                    have hadd8 : ∀ w, Sem.run Tryz.prog (Op.stringOp .add (H m) ⟨#[124]⟩) w = .ok (.string (H m ++ ⟨#[124]⟩)) w := fun w => run_string_add_sum w _ _ (by show (H m).size + 1 ≤ _; omega)
                    have hadd9 : ∀ w, Sem.run Tryz.prog (Op.stringOp .add (H m ++ ⟨#[124]⟩) x) w = .ok (.string (H (m + 1))) w := fun w => by rw [← HA2.out m x hx hmz]; exact run_string_add_sum w _ _ (by rw [ByteArray.size_append]; show (H m).size + 1 + x.size ≤ _; omega)
                    obtain ⟨M, hM⟩ : ∃ M, M = H m ++ ⟨#[124]⟩ := ⟨_, rfl⟩
                    rw [← hM] at hadd8 hadd9
                    clear hx hcell2 hmz hM
                    go_wp2
                    go_roundw
                    case rel => exact ⟨m + 1, by omega, by go_num, rfl, hbq⟩
                    case measure => simp [intOf]; omega
                · obtain rfl : m = L := by omega
                  go_wp2
                  go_roundw
                  case rel => exact ⟨j + 1, by omega, by go_num, by rw [HHE.out], grows hbr hbw⟩
                  case measure => simp [intOf]; omega
            | false =>
              obtain ⟨A1, hA1⟩ : ∃ x, x = A ++ key := ⟨_, rfl⟩
              have HA1e := Lib.hid hA1
              have hH0 : Hid (A1 ++ ⟨#[61]⟩ = H 0) := Lib.hid (by rw [hA1, HHZ.out, ← HAe.out]; apply ByteArray.ext; simp [str, preT, hvz])
              have hadd1 : ∀ w, Sem.run Tryz.prog (Op.stringOp .add A key) w = .ok (.string A1) w := fun w => by rw [HA1e.out]; exact run_string_add_sum w _ _ (by omega)
              have hadd2 : ∀ w, Sem.run Tryz.prog (Op.stringOp .add A1 ⟨#[61]⟩) w = .ok (.string (H 0)) w := fun w => by rw [← hH0.out]; exact run_string_add_sum w _ _ (by rw [HA1e.out, ByteArray.size_append]; show A.size + key.size + 1 ≤ _; omega)
              clear hA1
              go_wp2_with fail
              go_loopw [3, 6] (fun acc i wr => ∃ m : Nat, m ≤ L ∧ i = .int .i64 m ∧ acc = .string (H m) ∧ Below (World.alloc wa (.cells #[.string key, .bool false, .slice sa L sc] 108)).heap.size (World.alloc wa (.cells #[.string key, .bool false, .slice sa L sc] 108)) wr) (fun _ i _ => L - (intOf i).toNat)
              case atStart => exact ⟨0, Nat.zero_le _, rfl, rfl, Below.refl _ _⟩
              case round =>
                obtain ⟨m, hm, rfl, rfl, hbq⟩ := hrel
                obtain ⟨hB, e0, e1, e2⟩ := cell_new hbq
                have hbw := grows (grew wa _) hbq
                clear c0 c1 c2
                by_cases hml : m < L
                · have hmlz : (m : Int) < (L : Int) := by omega
                  have hm0 : (0 : Int) ≤ (m : Int) := by omega
                  obtain ⟨g2, o2, rfl, hg2, hcell2⟩ := (HS.out.below hbw).cells (by rw [← HL.out]; exact hml)
                  obtain ⟨x, hx⟩ : ∃ x, vs[m]? = some x := ⟨_, List.getElem?_eq_getElem (by rw [← HL.out]; exact hml)⟩
                  have hc := hcell2 m x hx
                  have hfs := HAH.out m
                  have hxs := H32.out x (List.mem_of_getElem? hx)
                  by_cases hmz : m = 0
                  · have hz1 : ¬ (0 : Int) < (m : Int) := by omega
                    have hz2 : ¬ 0 < m := by omega
                    have hz3 : decide (0 < m) = false := decide_eq_false hz2
                    have hz4 : decide ((0 : Int) < (m : Int)) = false := decide_eq_false hz1
                    have hadd8 : ∀ w, Sem.run Tryz.prog (Op.stringOp .add (H m) x) w = .ok (.string (H (m + 1))) w := fun w => by rw [← HA1.out m x hx hmz]; exact run_string_add_sum w _ _ (by omega)
                    clear hx hcell2 hmz
                    go_wp2
                    go_roundw
                    case rel => exact ⟨m + 1, by omega, by go_num, rfl, hbq⟩
                    case measure => simp [intOf]; omega
                  · have hz1 : (0 : Int) < (m : Int) := by omega
                    have hz2 : 0 < m := by omega
                    have hadd8 : ∀ w, Sem.run Tryz.prog (Op.stringOp .add (H m) ⟨#[124]⟩) w = .ok (.string (H m ++ ⟨#[124]⟩)) w := fun w => run_string_add_sum w _ _ (by show (H m).size + 1 ≤ _; omega)
                    have hadd9 : ∀ w, Sem.run Tryz.prog (Op.stringOp .add (H m ++ ⟨#[124]⟩) x) w = .ok (.string (H (m + 1))) w := fun w => by rw [← HA2.out m x hx hmz]; exact run_string_add_sum w _ _ (by rw [ByteArray.size_append]; show (H m).size + 1 + x.size ≤ _; omega)
                    obtain ⟨M, hM⟩ : ∃ M, M = H m ++ ⟨#[124]⟩ := ⟨_, rfl⟩
                    rw [← hM] at hadd8 hadd9
                    clear hx hcell2 hmz hM
                    go_wp2
                    go_roundw
                    case rel => exact ⟨m + 1, by omega, by go_num, rfl, hbq⟩
                    case measure => simp [intOf]; omega
                · obtain rfl : m = L := by omega
                  go_wp2
                  go_roundw
                  case rel => exact ⟨j + 1, by omega, by go_num, by rw [HHE.out], grows hbr hbw⟩
                  case measure => simp [intOf]; omega
        · have y1 : (0 : Int) < (j : Int) := by omega
          have y2 : 0 < j := by omega
          obtain ⟨A, hA⟩ : ∃ A, A = F j ++ ⟨#[44]⟩ := ⟨_, rfl⟩
          have HAe : Hid (str (comS ls j) = A) := Lib.hid (by rw [hA, HFE.out]; unfold comS; rw [if_neg hjz]; apply ByteArray.ext; simp [str])
          have hzA : A.size ≤ 811 := by rw [hA, ByteArray.size_append]; show (F j).size + 1 ≤ _; omega
          have hadd0 : ∀ w, Sem.run Tryz.prog (Op.stringOp .add (F j) ⟨#[44]⟩) w = .ok (.string A) w := fun w => by rw [hA]; exact run_string_add_sum w _ _ (by show (F j).size + 1 ≤ _; omega)
          clear hjz hA
          by_cases hvz : vs = []
          · have hL0 : L = 0 := by rw [HL.out, hvz]; rfl
            have g1 : ((L : Int) == 0) = true := by simp [hL0]
            have g2 : (L == 0) = true := by simp [hL0]
            have g3 : decide (L = 0) = true := by simp [hL0]
            clear hL0
            cases n with
            | true =>
              obtain ⟨A1, hA1⟩ : ∃ x, x = A ++ ⟨#[33]⟩ := ⟨_, rfl⟩
              have HA1e := Lib.hid hA1
              have hH0 : Hid (A1 ++ key = H 0) := Lib.hid (by rw [hA1, HHZ.out, ← HAe.out]; apply ByteArray.ext; simp [str, preT, hvz])
              have hadd1 : ∀ w, Sem.run Tryz.prog (Op.stringOp .add A ⟨#[33]⟩) w = .ok (.string A1) w := fun w => by rw [HA1e.out]; exact run_string_add_sum w _ _ (by show A.size + 1 ≤ _; omega)
              have hadd2 : ∀ w, Sem.run Tryz.prog (Op.stringOp .add A1 key) w = .ok (.string (H 0)) w := fun w => by rw [← hH0.out]; exact run_string_add_sum w _ _ (by rw [HA1e.out, ByteArray.size_append]; show A.size + 1 + key.size ≤ _; omega)
              clear hA1
              go_wp2_with fail
              go_loopw [3, 6] (fun acc i wr => ∃ m : Nat, m ≤ L ∧ i = .int .i64 m ∧ acc = .string (H m) ∧ Below (World.alloc wa (.cells #[.string key, .bool true, .slice sa L sc] 108)).heap.size (World.alloc wa (.cells #[.string key, .bool true, .slice sa L sc] 108)) wr) (fun _ i _ => L - (intOf i).toNat)
              case atStart => exact ⟨0, Nat.zero_le _, rfl, rfl, Below.refl _ _⟩
              case round =>
                obtain ⟨m, hm, rfl, rfl, hbq⟩ := hrel
                obtain ⟨hB, e0, e1, e2⟩ := cell_new hbq
                have hbw := grows (grew wa _) hbq
                clear c0 c1 c2
                by_cases hml : m < L
                · have hmlz : (m : Int) < (L : Int) := by omega
                  have hm0 : (0 : Int) ≤ (m : Int) := by omega
                  obtain ⟨g2, o2, rfl, hg2, hcell2⟩ := (HS.out.below hbw).cells (by rw [← HL.out]; exact hml)
                  obtain ⟨x, hx⟩ : ∃ x, vs[m]? = some x := ⟨_, List.getElem?_eq_getElem (by rw [← HL.out]; exact hml)⟩
                  have hc := hcell2 m x hx
                  have hfs := HAH.out m
                  have hxs := H32.out x (List.mem_of_getElem? hx)
                  by_cases hmz : m = 0
                  · have hz1 : ¬ (0 : Int) < (m : Int) := by omega
                    have hz2 : ¬ 0 < m := by omega
                    have hz3 : decide (0 < m) = false := decide_eq_false hz2
                    have hz4 : decide ((0 : Int) < (m : Int)) = false := decide_eq_false hz1
                    have hadd8 : ∀ w, Sem.run Tryz.prog (Op.stringOp .add (H m) x) w = .ok (.string (H (m + 1))) w := fun w => by rw [← HA1.out m x hx hmz]; exact run_string_add_sum w _ _ (by omega)
                    clear hx hcell2 hmz
                    go_wp2
                    go_roundw
                    case rel => exact ⟨m + 1, by omega, by go_num, rfl, hbq⟩
                    case measure => simp [intOf]; omega
                  · have hz1 : (0 : Int) < (m : Int) := by omega
                    have hz2 : 0 < m := by omega
                    have hadd8 : ∀ w, Sem.run Tryz.prog (Op.stringOp .add (H m) ⟨#[124]⟩) w = .ok (.string (H m ++ ⟨#[124]⟩)) w := fun w => run_string_add_sum w _ _ (by show (H m).size + 1 ≤ _; omega)
                    have hadd9 : ∀ w, Sem.run Tryz.prog (Op.stringOp .add (H m ++ ⟨#[124]⟩) x) w = .ok (.string (H (m + 1))) w := fun w => by rw [← HA2.out m x hx hmz]; exact run_string_add_sum w _ _ (by rw [ByteArray.size_append]; show (H m).size + 1 + x.size ≤ _; omega)
                    obtain ⟨M, hM⟩ : ∃ M, M = H m ++ ⟨#[124]⟩ := ⟨_, rfl⟩
                    rw [← hM] at hadd8 hadd9
                    clear hx hcell2 hmz hM
                    go_wp2
                    go_roundw
                    case rel => exact ⟨m + 1, by omega, by go_num, rfl, hbq⟩
                    case measure => simp [intOf]; omega
                · obtain rfl : m = L := by omega
                  go_wp2
                  go_roundw
                  case rel => exact ⟨j + 1, by omega, by go_num, by rw [HHE.out], grows hbr hbw⟩
                  case measure => simp [intOf]; omega
            | false =>
              obtain ⟨A1, hA1⟩ : ∃ x, x = A := ⟨_, rfl⟩
              have HA1e := Lib.hid hA1
              have hH0 : Hid (A ++ key = H 0) := Lib.hid (by rw [HHZ.out, ← HAe.out]; apply ByteArray.ext; simp [str, preT, hvz])
              have hadd2 : ∀ w, Sem.run Tryz.prog (Op.stringOp .add A key) w = .ok (.string (H 0)) w := fun w => by rw [← hH0.out]; exact run_string_add_sum w _ _ (by omega)
              clear hA1
              go_wp2_with fail
              go_loopw [3, 6] (fun acc i wr => ∃ m : Nat, m ≤ L ∧ i = .int .i64 m ∧ acc = .string (H m) ∧ Below (World.alloc wa (.cells #[.string key, .bool false, .slice sa L sc] 108)).heap.size (World.alloc wa (.cells #[.string key, .bool false, .slice sa L sc] 108)) wr) (fun _ i _ => L - (intOf i).toNat)
              case atStart => exact ⟨0, Nat.zero_le _, rfl, rfl, Below.refl _ _⟩
              case round =>
                obtain ⟨m, hm, rfl, rfl, hbq⟩ := hrel
                obtain ⟨hB, e0, e1, e2⟩ := cell_new hbq
                have hbw := grows (grew wa _) hbq
                clear c0 c1 c2
                by_cases hml : m < L
                · have hmlz : (m : Int) < (L : Int) := by omega
                  have hm0 : (0 : Int) ≤ (m : Int) := by omega
                  obtain ⟨g2, o2, rfl, hg2, hcell2⟩ := (HS.out.below hbw).cells (by rw [← HL.out]; exact hml)
                  obtain ⟨x, hx⟩ : ∃ x, vs[m]? = some x := ⟨_, List.getElem?_eq_getElem (by rw [← HL.out]; exact hml)⟩
                  have hc := hcell2 m x hx
                  have hfs := HAH.out m
                  have hxs := H32.out x (List.mem_of_getElem? hx)
                  by_cases hmz : m = 0
                  · have hz1 : ¬ (0 : Int) < (m : Int) := by omega
                    have hz2 : ¬ 0 < m := by omega
                    have hz3 : decide (0 < m) = false := decide_eq_false hz2
                    have hz4 : decide ((0 : Int) < (m : Int)) = false := decide_eq_false hz1
                    have hadd8 : ∀ w, Sem.run Tryz.prog (Op.stringOp .add (H m) x) w = .ok (.string (H (m + 1))) w := fun w => by rw [← HA1.out m x hx hmz]; exact run_string_add_sum w _ _ (by omega)
                    clear hx hcell2 hmz
                    go_wp2
                    go_roundw
                    case rel => exact ⟨m + 1, by omega, by go_num, rfl, hbq⟩
                    case measure => simp [intOf]; omega
                  · have hz1 : (0 : Int) < (m : Int) := by omega
                    have hz2 : 0 < m := by omega
                    have hadd8 : ∀ w, Sem.run Tryz.prog (Op.stringOp .add (H m) ⟨#[124]⟩) w = .ok (.string (H m ++ ⟨#[124]⟩)) w := fun w => run_string_add_sum w _ _ (by show (H m).size + 1 ≤ _; omega)
                    have hadd9 : ∀ w, Sem.run Tryz.prog (Op.stringOp .add (H m ++ ⟨#[124]⟩) x) w = .ok (.string (H (m + 1))) w := fun w => by rw [← HA2.out m x hx hmz]; exact run_string_add_sum w _ _ (by rw [ByteArray.size_append]; show (H m).size + 1 + x.size ≤ _; omega)
                    obtain ⟨M, hM⟩ : ∃ M, M = H m ++ ⟨#[124]⟩ := ⟨_, rfl⟩
                    rw [← hM] at hadd8 hadd9
                    clear hx hcell2 hmz hM
                    go_wp2
                    go_roundw
                    case rel => exact ⟨m + 1, by omega, by go_num, rfl, hbq⟩
                    case measure => simp [intOf]; omega
                · obtain rfl : m = L := by omega
                  go_wp2
                  go_roundw
                  case rel => exact ⟨j + 1, by omega, by go_num, by rw [HHE.out], grows hbr hbw⟩
                  case measure => simp [intOf]; omega
          · have hL0 : ¬ L = 0 := by rw [HL.out]; intro h; exact hvz (List.eq_nil_of_length_eq_zero h)
            have g1 : ((L : Int) == 0) = false := by simp [hL0]
            have g2 : (L == 0) = false := by simp [hL0]
            have g3 : decide (L = 0) = false := by simp [hL0]
            clear hL0
            cases n with
            | true =>
              obtain ⟨A1, hA1⟩ : ∃ x, x = A ++ key := ⟨_, rfl⟩
              have HA1e := Lib.hid hA1
              have hH0 : Hid (A1 ++ ⟨#[33, 61]⟩ = H 0) := Lib.hid (by rw [hA1, HHZ.out, ← HAe.out]; apply ByteArray.ext; simp [str, preT, hvz])
              have hadd1 : ∀ w, Sem.run Tryz.prog (Op.stringOp .add A key) w = .ok (.string A1) w := fun w => by rw [HA1e.out]; exact run_string_add_sum w _ _ (by omega)
              have hadd2 : ∀ w, Sem.run Tryz.prog (Op.stringOp .add A1 ⟨#[33, 61]⟩) w = .ok (.string (H 0)) w := fun w => by rw [← hH0.out]; exact run_string_add_sum w _ _ (by rw [HA1e.out, ByteArray.size_append]; show A.size + key.size + 2 ≤ _; omega)
              clear hA1
              go_wp2_with fail
              go_loopw [3, 6] (fun acc i wr => ∃ m : Nat, m ≤ L ∧ i = .int .i64 m ∧ acc = .string (H m) ∧ Below (World.alloc wa (.cells #[.string key, .bool true, .slice sa L sc] 108)).heap.size (World.alloc wa (.cells #[.string key, .bool true, .slice sa L sc] 108)) wr) (fun _ i _ => L - (intOf i).toNat)
              case atStart => exact ⟨0, Nat.zero_le _, rfl, rfl, Below.refl _ _⟩
              case round =>
                obtain ⟨m, hm, rfl, rfl, hbq⟩ := hrel
                obtain ⟨hB, e0, e1, e2⟩ := cell_new hbq
                have hbw := grows (grew wa _) hbq
                clear c0 c1 c2
                by_cases hml : m < L
                · have hmlz : (m : Int) < (L : Int) := by omega
                  have hm0 : (0 : Int) ≤ (m : Int) := by omega
                  obtain ⟨g2, o2, rfl, hg2, hcell2⟩ := (HS.out.below hbw).cells (by rw [← HL.out]; exact hml)
                  obtain ⟨x, hx⟩ : ∃ x, vs[m]? = some x := ⟨_, List.getElem?_eq_getElem (by rw [← HL.out]; exact hml)⟩
                  have hc := hcell2 m x hx
                  have hfs := HAH.out m
                  have hxs := H32.out x (List.mem_of_getElem? hx)
                  by_cases hmz : m = 0
                  · have hz1 : ¬ (0 : Int) < (m : Int) := by omega
                    have hz2 : ¬ 0 < m := by omega
                    have hz3 : decide (0 < m) = false := decide_eq_false hz2
                    have hz4 : decide ((0 : Int) < (m : Int)) = false := decide_eq_false hz1
                    have hadd8 : ∀ w, Sem.run Tryz.prog (Op.stringOp .add (H m) x) w = .ok (.string (H (m + 1))) w := fun w => by rw [← HA1.out m x hx hmz]; exact run_string_add_sum w _ _ (by omega)
                    clear hx hcell2 hmz
                    go_wp2
                    go_roundw
                    case rel => exact ⟨m + 1, by omega, by go_num, rfl, hbq⟩
                    case measure => simp [intOf]; omega
                  · have hz1 : (0 : Int) < (m : Int) := by omega
                    have hz2 : 0 < m := by omega
                    have hadd8 : ∀ w, Sem.run Tryz.prog (Op.stringOp .add (H m) ⟨#[124]⟩) w = .ok (.string (H m ++ ⟨#[124]⟩)) w := fun w => run_string_add_sum w _ _ (by show (H m).size + 1 ≤ _; omega)
                    have hadd9 : ∀ w, Sem.run Tryz.prog (Op.stringOp .add (H m ++ ⟨#[124]⟩) x) w = .ok (.string (H (m + 1))) w := fun w => by rw [← HA2.out m x hx hmz]; exact run_string_add_sum w _ _ (by rw [ByteArray.size_append]; show (H m).size + 1 + x.size ≤ _; omega)
                    obtain ⟨M, hM⟩ : ∃ M, M = H m ++ ⟨#[124]⟩ := ⟨_, rfl⟩
                    rw [← hM] at hadd8 hadd9
                    clear hx hcell2 hmz hM
                    go_wp2
                    go_roundw
                    case rel => exact ⟨m + 1, by omega, by go_num, rfl, hbq⟩
                    case measure => simp [intOf]; omega
                · obtain rfl : m = L := by omega
                  go_wp2
                  go_roundw
                  case rel => exact ⟨j + 1, by omega, by go_num, by rw [HHE.out], grows hbr hbw⟩
                  case measure => simp [intOf]; omega
            | false =>
              obtain ⟨A1, hA1⟩ : ∃ x, x = A ++ key := ⟨_, rfl⟩
              have HA1e := Lib.hid hA1
              have hH0 : Hid (A1 ++ ⟨#[61]⟩ = H 0) := Lib.hid (by rw [hA1, HHZ.out, ← HAe.out]; apply ByteArray.ext; simp [str, preT, hvz])
              have hadd1 : ∀ w, Sem.run Tryz.prog (Op.stringOp .add A key) w = .ok (.string A1) w := fun w => by rw [HA1e.out]; exact run_string_add_sum w _ _ (by omega)
              have hadd2 : ∀ w, Sem.run Tryz.prog (Op.stringOp .add A1 ⟨#[61]⟩) w = .ok (.string (H 0)) w := fun w => by rw [← hH0.out]; exact run_string_add_sum w _ _ (by rw [HA1e.out, ByteArray.size_append]; show A.size + key.size + 1 ≤ _; omega)
              clear hA1
              go_wp2_with fail
              go_loopw [3, 6] (fun acc i wr => ∃ m : Nat, m ≤ L ∧ i = .int .i64 m ∧ acc = .string (H m) ∧ Below (World.alloc wa (.cells #[.string key, .bool false, .slice sa L sc] 108)).heap.size (World.alloc wa (.cells #[.string key, .bool false, .slice sa L sc] 108)) wr) (fun _ i _ => L - (intOf i).toNat)
              case atStart => exact ⟨0, Nat.zero_le _, rfl, rfl, Below.refl _ _⟩
              case round =>
                obtain ⟨m, hm, rfl, rfl, hbq⟩ := hrel
                obtain ⟨hB, e0, e1, e2⟩ := cell_new hbq
                have hbw := grows (grew wa _) hbq
                clear c0 c1 c2
                by_cases hml : m < L
                · have hmlz : (m : Int) < (L : Int) := by omega
                  have hm0 : (0 : Int) ≤ (m : Int) := by omega
                  obtain ⟨g2, o2, rfl, hg2, hcell2⟩ := (HS.out.below hbw).cells (by rw [← HL.out]; exact hml)
                  obtain ⟨x, hx⟩ : ∃ x, vs[m]? = some x := ⟨_, List.getElem?_eq_getElem (by rw [← HL.out]; exact hml)⟩
                  have hc := hcell2 m x hx
                  have hfs := HAH.out m
                  have hxs := H32.out x (List.mem_of_getElem? hx)
                  by_cases hmz : m = 0
                  · have hz1 : ¬ (0 : Int) < (m : Int) := by omega
                    have hz2 : ¬ 0 < m := by omega
                    have hz3 : decide (0 < m) = false := decide_eq_false hz2
                    have hz4 : decide ((0 : Int) < (m : Int)) = false := decide_eq_false hz1
                    have hadd8 : ∀ w, Sem.run Tryz.prog (Op.stringOp .add (H m) x) w = .ok (.string (H (m + 1))) w := fun w => by rw [← HA1.out m x hx hmz]; exact run_string_add_sum w _ _ (by omega)
                    clear hx hcell2 hmz
                    go_wp2
                    go_roundw
                    case rel => exact ⟨m + 1, by omega, by go_num, rfl, hbq⟩
                    case measure => simp [intOf]; omega
                  · have hz1 : (0 : Int) < (m : Int) := by omega
                    have hz2 : 0 < m := by omega
                    have hadd8 : ∀ w, Sem.run Tryz.prog (Op.stringOp .add (H m) ⟨#[124]⟩) w = .ok (.string (H m ++ ⟨#[124]⟩)) w := fun w => run_string_add_sum w _ _ (by show (H m).size + 1 ≤ _; omega)
                    have hadd9 : ∀ w, Sem.run Tryz.prog (Op.stringOp .add (H m ++ ⟨#[124]⟩) x) w = .ok (.string (H (m + 1))) w := fun w => by rw [← HA2.out m x hx hmz]; exact run_string_add_sum w _ _ (by rw [ByteArray.size_append]; show (H m).size + 1 + x.size ≤ _; omega)
                    obtain ⟨M, hM⟩ : ∃ M, M = H m ++ ⟨#[124]⟩ := ⟨_, rfl⟩
                    rw [← hM] at hadd8 hadd9
                    clear hx hcell2 hmz hM
                    go_wp2
                    go_roundw
                    case rel => exact ⟨m + 1, by omega, by go_num, rfl, hbq⟩
                    case measure => simp [intOf]; omega
                · obtain rfl : m = L := by omega
                  go_wp2
                  go_roundw
                  case rel => exact ⟨j + 1, by omega, by go_num, by rw [HHE.out], grows hbr hbw⟩
                  case measure => simp [intOf]; omega
      · obtain rfl : j = ls.length := by omega
        have hbF := grows hb' hbr
        by_cases h0 : ls = []
        · have HE : Hid (textS ls = ⟨#[45]⟩) := Lib.hid (by rw [h0]; rfl)
          have he : (F ls.length).toList = [] := by rw [HFE.out, h0, Lib.toList_data, str_toList]; rfl
          obtain ⟨T, hT⟩ : ∃ T, T = F ls.length := ⟨_, rfl⟩
          rw [← hT] at he ⊢
          have he2 : (T.toList == ([] : List UInt8)) = true := by rw [he]; rfl
          clear hT h0
          go_wp2
          go_ret
          exact ⟨by rw [HE.out]; rfl, hbF⟩
        · have HE : Hid (textS ls = F ls.length) := Lib.hid (by unfold textS; rw [if_pos HQ.out, if_neg h0, HFE.out, List.take_length])
          have he : (F ls.length).toList ≠ [] := by
            rw [HFE.out, List.take_length, Lib.toList_data, str_toList]
            cases ls with
            | nil => exact absurd rfl h0
            | cons y r =>
              have hy := name_some (rightT_parts (HTS.out y (List.mem_cons_self ..))).1
              intro h
              have : (showT y) = [] := by
                cases r with
                | nil => exact h
                | cons z r => exact absurd h (by simp [glueC])
              rw [show_pre] at this
              have h2 : preT y = [] := (List.append_eq_nil_iff.1 this).1
              unfold preT at h2
              split at h2
              · split at h2
                · simp at h2
                · exact hy h2
              · exact hy (List.append_eq_nil_iff.1 h2).1
          obtain ⟨T, hT⟩ : ∃ T, T = F ls.length := ⟨_, rfl⟩
          rw [← hT] at he HE ⊢
          have he2 : (T.toList == ([] : List UInt8)) = false := by rw [beq_eq_false_iff_ne]; exact he
          have he3 : T.toList.isEmpty = false := by cases h : T.toList with
            | nil => exact absurd h he
            | cons _ _ => rfl
          clear hT h0
          go_wp2
          go_ret
          exact ⟨by rw [HE.out]; rfl, hbF⟩
end Go.Proofs.YtbilkeadhflibaaGreatDoor.Sel
