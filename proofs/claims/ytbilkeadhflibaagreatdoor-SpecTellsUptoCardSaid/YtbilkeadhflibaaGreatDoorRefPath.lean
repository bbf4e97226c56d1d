/- What the document's own Parts, Ups and Under answer, for all texts; of memory that was there nothing turns. -/
import Derived.Test.YtbilkeadhflibaaGreatDoorRefName
import Derived.Test.YtbilkeadhflibaaGreatDoorWGlue
import Derived.Test.YtbilkeadhflibaaGreatDoorJWPath
import Derived.Test.YtbilkeadhflibaaGreatDoorJL4
namespace Go.Proofs.YtbilkeadhflibaaGreatDoor.Word
open Go.RowKit Go.PlainAid

theorem refRight_is (s : ByteArray) (hs : s.size ≤ 4611686018427387904) (b : Bool) (h : right s.data.toList = b) (w : World) : Calls Tryz.prog 90 #[.string s] w fun e w' => e = .returned (.bool b) ∧ Below w.heap.size w w' := by
  have := refRight_any s hs w
  rw [h] at this
  exact this
theorem own_below {w w' : World} {B n : Nat} {e : TypeId} {sz : Nat} {v : Value} {xs : List Value} (h : w.ownsRow B e sz v n xs) (hb : Below w.heap.size w w') : w'.ownsRow B e sz v n xs := by
  refine ⟨h.1, ?_⟩
  have h' := h
  rcases h.2 with h0 | ⟨g, cap, cur, hv, h1, h2, h3⟩
  · exact .inl h0
  · refine .inr ⟨g, cap, cur, hv, h1, ?_, h3⟩
    rw [hb.block g (h'.lt g (by rw [hv]; rfl)).2]
    exact h2
theorem own_len {w : World} {B n : Nat} {v : Value} {ls : List (List UInt8)} {T : TypeId} (h : w.ownsRow B T 1 v n (strs ls)) : ∃ o cap, v = .slice o n cap := by
  rcases h.2 with ⟨rfl, rfl⟩ | ⟨g, cap, cur, rfl, _⟩
  · exact ⟨_, _, rfl⟩
  · exact ⟨_, _, rfl⟩

/-! ### Parts -/

/-- Up to place i, a piece begun at f: what was gone through. -/
def Gone (l : List UInt8) (i f : Nat) (done : List (List UInt8)) : Prop :=
  f ≤ i ∧ i ≤ l.length ∧ pieces l = done ++ pieces (l.drop f) ∧ (47 : UInt8) ∉ (l.drop f).take (i - f)
theorem gone_start (l : List UInt8) : Gone l 0 0 [] := ⟨Nat.le_refl _, Nat.zero_le _, rfl, by simp⟩
theorem gone_on {l : List UInt8} {i f : Nat} {done : List (List UInt8)} (h : Gone l i f done) (hi : i < l.length) (hc : l[i] ≠ 47) : Gone l (i + 1) f done := by
  obtain ⟨h1, h2, h3, h4⟩ := h
  refine ⟨by omega, by omega, h3, ?_⟩
  have hk : i - f < (l.drop f).length := by rw [List.length_drop]; omega
  rw [show i + 1 - f = (i - f) + 1 by omega, List.take_succ_eq_append_getElem hk, List.mem_append]
  rintro (hm | hm)
  · exact h4 hm
  · rw [List.mem_singleton, List.getElem_drop] at hm
    have e : f + (i - f) = i := by omega
    simp only [e] at hm
    exact hc hm.symm
theorem gone_cut {l : List UInt8} {i f : Nat} {done : List (List UInt8)} (h : Gone l i f done) (hi : i < l.length) (hc : l[i] = 47) :
    pieces l = done ++ (l.drop f).take (i - f) :: pieces (l.drop (i + 1)) ∧ Gone l (i + 1) (i + 1) (done ++ [(l.drop f).take (i - f)]) := by
  obtain ⟨h1, h2, h3, h4⟩ := h
  have e : l.drop f = (l.drop f).take (i - f) ++ 47 :: l.drop (i + 1) := by
    have h5 := (List.take_append_drop (i - f) (l.drop f)).symm
    rw [List.drop_drop, show f + (i - f) = i by omega, List.drop_eq_getElem_cons hi, hc] at h5
    exact h5
  have h6 := pieces_cut (l.drop (i + 1)) h4
  rw [← e] at h6
  rw [h6] at h3
  exact ⟨h3, Nat.le_refl _, by omega, by rw [h3]; simp, by simp⟩
theorem gone_end {l : List UInt8} {f : Nat} {done : List (List UInt8)} (h : Gone l l.length f done) : pieces l = done ++ [(l.drop f).take (l.length - f)] := by
  obtain ⟨h1, h2, h3, h4⟩ := h
  have e : (l.drop f).take (l.length - f) = l.drop f := List.take_of_length_le (by rw [List.length_drop]; omega)
  rw [e] at h4 ⊢
  rw [h3, pieces_free h4]

theorem parts_bad {l : List UInt8} {done rest : List (List UInt8)} {a : List UInt8} (e : pieces l = done ++ a :: rest) (h : right a = false ∨ done.length = 3) : parts l = [] := by
  unfold parts
  rw [if_neg]
  rintro ⟨h1, h2⟩
  rw [e] at h1 h2
  rcases h with h | h
  · have := List.all_eq_true.1 h2 a (by simp)
    rw [h] at this
    simp at this
  · simp at h1
    omega
theorem parts_good {l : List UInt8} {done : List (List UInt8)} (e : pieces l = done) (h : ∀ a ∈ done, right a = true) (h3 : done.length ≤ 3) : parts l = done := by
  unfold parts
  rw [e, if_pos ⟨h3, List.all_eq_true.2 h⟩]

theorem extract_mid (s : ByteArray) (a b : Nat) : s.extract a b = str ((s.data.toList.drop a).take (b - a)) := by
  apply ByteArray.ext
  apply Array.toList_inj.1
  rw [Lib.extract_data]
  simp [str]

set_option maxRecDepth 100000 in
set_option maxHeartbeats 8000000 in
theorem refParts_any (s : ByteArray) (hs : s.size ≤ 4611686018427387904) (w : World) : Calls Tryz.prog 45 #[.string s] w (Gives (parts s.data.toList) w) := by
  obtain ⟨i0, hi, hz0, hz1, hz2⟩ := info_parts info9
  have hbt := get_bt s
  go_enter Tryz.func45, Tryz.ntmps45
  go_wp2
  go_loopw [3, 4, 5] (fun t f i wr => ∃ (k j : Nat) (done : List (List UInt8)), i = .int .i64 k ∧ f = .int .i64 j ∧ k ≤ s.size + 1 ∧ j ≤ k ∧ (k ≤ s.size → Gone s.data.toList k j done) ∧ (k = s.size + 1 → pieces s.data.toList = done) ∧ (∀ a ∈ done, right a = true) ∧ done.length ≤ 3 ∧
    wr.ownsRow w.heap.size 9 1 t done.length (strs done) ∧ Below w.heap.size w wr) (fun _ _ i _ => s.size + 1 - (intOf i).toNat)
  case atStart => exact ⟨0, 0, [], rfl, rfl, by omega, Nat.le_refl _, fun _ => gone_start _, (fun h => by omega), (fun a h => by cases h), by simp, World.ownsRow_nil _ _ _ _, Below.refl _ _⟩
  case round =>
    obtain ⟨k, j, done, rfl, rfl, hk, hjk, hgone, hdone, hall, h3, hown, hb⟩ := hrel
    have HG := Lib.hid hgone
    have HD := Lib.hid hdone
    have HA := Lib.hid hall
    clear hgone hdone hall
    by_cases hend : k = s.size + 1
    · have HE := Lib.hid (parts_good (HD.out hend) HA.out h3)
      have hne : done ≠ [] := by rw [← HD.out hend]; exact pieces_ne _
      have HN := Lib.hid hne
      have hgt : s.size < k := by omega
      clear hend hne
      go_wp2
      go_ret
      refine ⟨_, rfl, ?_, hb⟩
      rw [HE.out]
      exact own_holds rfl HN.out hown
    · have hks : k ≤ s.size := by omega
      have HG' := Lib.hid (HG.out hks)
      obtain ⟨o, cap, rfl⟩ := own_len hown
      clear HG HD hend
      have hx := extract_mid s j k
      obtain ⟨a, ha⟩ : ∃ a, a = (s.data.toList.drop j).take (k - j) := ⟨_, rfl⟩
      rw [← ha] at hx
      have has : (str a).size ≤ s.size := by rw [str_size, ha]; have := List.length_take_le' (k - j) (s.data.toList.drop j); rw [List.length_drop, size_list] at this; omega
      have HX := Lib.hid hx
      -- what stands here: a byte that is no slash, a slash, the end
      by_cases hlt : k < s.size
      · have hkl : k < s.data.toList.length := by rw [size_list]; exact hlt
        have hbk : bt s k = (s.data.toList[k].toNat : Int) := by
          rw [bt_getD, List.getD_eq_getElem?_getD, List.getElem?_eq_getElem hkl]; rfl
        by_cases hc : s.data.toList[k] = 47
        · have hb47 : (bt s k == 47) = true := by rw [hbk, hc]; rfl
          have hb47' : bt s k = 47 := by rw [hbk, hc]; rfl
          have GC := Lib.hid (gone_cut HG'.out hkl hc)
          rw [← ha] at GC
          clear hbk hc ha HG' hkl
          by_cases hr : right a = true
          · have HR := Lib.hid (fun w => refRight_is (str a) (by omega) true (by rw [str_toList]; exact hr) w)
            have HAA : Hid (∀ x ∈ done ++ [a], right x = true) := Lib.hid (fun x hx => by
              rcases List.mem_append.1 hx with hx | hx
              · exact HA.out x hx
              · rw [List.mem_singleton.1 hx]; exact hr)
            clear hr
            by_cases hd3 : done.length = 3
            · have HB := Lib.hid (parts_bad GC.out.1 (.inr hd3))
              have e3 : ((done.length : Int) == 3) = true := by rw [beq_iff_eq]; omega
              clear hd3
              go_wp2_with (go_at_call 90; (with_reducible refine (HR.out _).mono ?_); rintro e w2 ⟨rfl, hb2⟩)
              go_ret
              exact ⟨_, rfl, .inl ⟨HB.out, rfl⟩, hb.trans (hb2.mono hb.size)⟩
            · have e3 : ((done.length : Int) == 3) = false := by rw [beq_eq_false_iff_ne]; omega
              have hd2 : done.length + 1 ≤ 3 := by omega
              clear hd3
              go_wp2_with fail
              (with_reducible refine (HR.out _).mono ?_)
              rintro e w2 ⟨rfl, hb2⟩
              have hown2 := own_below hown hb2
              have hb' := hb.trans (hb2.mono hb.size)
              clear hown hb hb2
              go_wp2_with (at_builtin; refine wpList_append_own _ rfl _ _ 28 rfl w.heap.size 9 i0 (.string ByteArray.empty) 1 16 Tryz.underlying28 hi hz0 hz1 hz2 rfl (by decide) _ _ _ rfl (hown2.alloc _) ⟨w2.heap.size, 0, none⟩ 1 1 [.string (str a)] rfl rfl ?c1 ?c2 ?c3 ?c4 ?c5 ?_)
              case c1 => exact cell_one_new _ _ _
              case c2 => intro u hu; simp at hu; subst hu; rfl
              case c3 => unfold maxLen; omega
              case c4 => omega
              case c5 => have := hb'.size; simp; omega
              intro v' w4 hown' hgrow _
              have hown4 : w4.ownsRow w.heap.size 9 1 v' (done ++ [a]).length (strs (done ++ [a])) := by rw [strs_snoc]; simpa using hown'
              have hb4 : Below w.heap.size w w4 := (hb'.alloc hb'.size _).grown hgrow (by have := hb'.size; simp; omega) (fun k hk => (hown2.lt k hk).1)
              clear hown2 hown' hgrow
              go_wp2
              go_roundw
              case rel => exact ⟨k + 1, k + 1, done ++ [a], by go_num, by go_num, by omega, Nat.le_refl _, fun _ => GC.out.2, fun h => by omega, HAA.out, by simp; omega, hown4, hb4⟩
              case measure => simp [intOf]; omega
          · have hrf : right a = false := by simpa using hr
            have HB := Lib.hid (parts_bad GC.out.1 (.inl hrf))
            have HR := Lib.hid (fun w => refRight_is (str a) (by omega) false (by rw [str_toList]; exact hrf) w)
            clear hr hrf
            go_wp2_with (go_at_call 90; (with_reducible refine (HR.out _).mono ?_); rintro e w2 ⟨rfl, hb2⟩)
            go_ret
            exact ⟨_, rfl, .inl ⟨HB.out, rfl⟩, hb.trans (hb2.mono hb.size)⟩
        · have hb47 : (bt s k == 47) = false := by
            rw [beq_eq_false_iff_ne, hbk]
            intro h
            exact hc (UInt8.toNat_inj.1 (show s.data.toList[k].toNat = 47 by omega))
          have GO := Lib.hid (gone_on HG'.out hkl hc)
          clear hbk hc ha HG' hkl
          go_wp2
          go_roundw
          case rel => exact ⟨k + 1, j, done, by go_num, rfl, by omega, by omega, fun _ => GO.out, fun h => by omega, HA.out, h3, hown, hb⟩
          case measure => simp [intOf]; omega
      · have hkn : k = s.size := by omega
        have GE := Lib.hid (gone_end (by have := HG'.out; rw [hkn, ← size_list] at this; exact this))
        rw [size_list, ← hkn, ← ha] at GE
        clear hkn ha HG'
        by_cases hr : right a = true
        · have HR := Lib.hid (fun w => refRight_is (str a) (by omega) true (by rw [str_toList]; exact hr) w)
          have HAA : Hid (∀ x ∈ done ++ [a], right x = true) := Lib.hid (fun x hx => by
            rcases List.mem_append.1 hx with hx | hx
            · exact HA.out x hx
            · rw [List.mem_singleton.1 hx]; exact hr)
          clear hr
          by_cases hd3 : done.length = 3
          · have HB := Lib.hid (parts_bad GE.out (.inr hd3))
            have e3 : ((done.length : Int) == 3) = true := by rw [beq_iff_eq]; omega
            clear hd3
            go_wp2_with (go_at_call 90; (with_reducible refine (HR.out _).mono ?_); rintro e w2 ⟨rfl, hb2⟩)
            go_ret
            exact ⟨_, rfl, .inl ⟨HB.out, rfl⟩, hb.trans (hb2.mono hb.size)⟩
          · have e3 : ((done.length : Int) == 3) = false := by rw [beq_eq_false_iff_ne]; omega
            have hd2 : done.length + 1 ≤ 3 := by omega
            clear hd3
            go_wp2_with fail
            (with_reducible refine (HR.out _).mono ?_)
            rintro e w2 ⟨rfl, hb2⟩
            have hown2 := own_below hown hb2
            have hb' := hb.trans (hb2.mono hb.size)
            clear hown hb hb2
            go_wp2_with (at_builtin; refine wpList_append_own _ rfl _ _ 28 rfl w.heap.size 9 i0 (.string ByteArray.empty) 1 16 Tryz.underlying28 hi hz0 hz1 hz2 rfl (by decide) _ _ _ rfl (hown2.alloc _) ⟨w2.heap.size, 0, none⟩ 1 1 [.string (str a)] rfl rfl ?d1 ?d2 ?d3 ?d4 ?d5 ?_)
            case d1 => exact cell_one_new _ _ _
            case d2 => intro u hu; simp at hu; subst hu; rfl
            case d3 => unfold maxLen; omega
            case d4 => omega
            case d5 => have := hb'.size; simp; omega
            intro v' w4 hown' hgrow _
            have hown4 : w4.ownsRow w.heap.size 9 1 v' (done ++ [a]).length (strs (done ++ [a])) := by rw [strs_snoc]; simpa using hown'
            have hb4 : Below w.heap.size w w4 := (hb'.alloc hb'.size _).grown hgrow (by have := hb'.size; simp; omega) (fun k hk => (hown2.lt k hk).1)
            clear hown2 hown' hgrow
            go_wp2
            go_roundw
            case rel => exact ⟨k + 1, k + 1, done ++ [a], by go_num, by go_num, by omega, Nat.le_refl _, (fun h => by omega), fun _ => GE.out, HAA.out, by simp; omega, hown4, hb4⟩
            case measure => simp [intOf]; omega
        · have hrf : right a = false := by simpa using hr
          have HB := Lib.hid (parts_bad GE.out (.inl hrf))
          have HR := Lib.hid (fun w => refRight_is (str a) (by omega) false (by rw [str_toList]; exact hrf) w)
          clear hr hrf
          go_wp2_with (go_at_call 90; (with_reducible refine (HR.out _).mono ?_); rintro e w2 ⟨rfl, hb2⟩)
          go_ret
          exact ⟨_, rfl, .inl ⟨HB.out, rfl⟩, hb.trans (hb2.mono hb.size)⟩
end Go.Proofs.YtbilkeadhflibaaGreatDoor.Word
