/- What the document's own Right answers, for every text; of memory that was there nothing turns. -/
import Derived.Test.YtbilkeadhflibaaGreatDoorRefRight
namespace Go.Proofs.YtbilkeadhflibaaGreatDoor.Word
open Go.RowKit Go.PlainAid

theorem letter_of_one (q : ByteArray) (h1 : q.size = 1) (r : Nat) (hr : bt q 0 = r) (h128 : r < 128) (w : World) :
    Calls Tryz.prog 127 #[.string q] w fun e w' => e = .returned (.bool (isLetter r)) ∧ Below w.heap.size w w' := by
  have := letter_one q h1 r hr w
  have e : (decide (97 ≤ r) && decide (r ≤ 122)) = isLetter r := by
    unfold isLetter
    have h2 : decide (945 ≤ r) = false := decide_eq_false (by omega)
    have h3 : decide (1072 ≤ r) = false := decide_eq_false (by omega)
    rw [h2, h3]
    simp
  rw [e] at this
  exact this
theorem letter_of_two (q : ByteArray) (h2 : q.size = 2) (c d r : Nat) (hc : bt q 0 = c) (hd : bt q 1 = d) (hr : r = c % 32 * 64 + d % 64) (h128 : 128 ≤ r) (w : World) :
    Calls Tryz.prog 127 #[.string q] w fun e w' => e = .returned (.bool (isLetter r)) ∧ Below w.heap.size w w' := by
  have hc' := bt_le q 0
  have hd' := bt_le q 1
  have := letter_two q h2 c d hc hd (by omega) (by omega) w
  rw [← hr] at this
  have e : ((decide (945 ≤ r) && decide (r ≤ 969)) || (decide (1072 ≤ r) && decide (r ≤ 1103))) = isLetter r := by
    unfold isLetter
    have h3 : decide (r ≤ 122) = false := decide_eq_false (by omega)
    rw [h3]
    simp
  rw [e] at this
  exact this
theorem letter_of_long (q : ByteArray) (h3 : 3 ≤ q.size) (r : Nat) (h : 2048 ≤ r) (w : World) :
    Calls Tryz.prog 127 #[.string q] w fun e w' => e = .returned (.bool (isLetter r)) ∧ Below w.heap.size w w' := by
  have := letter_long q h3 w
  have e : isLetter r = false := by
    unfold isLetter
    have h1 : decide (r ≤ 122) = false := decide_eq_false (by omega)
    have h2 : decide (r ≤ 969) = false := decide_eq_false (by omega)
    have h3 : decide (r ≤ 1103) = false := decide_eq_false (by omega)
    rw [h1, h2, h3]
    simp
  rw [e]
  exact this

set_option maxRecDepth 100000 in
set_option maxHeartbeats 8000000 in
theorem refRight_any (s : ByteArray) (hs : s.size ≤ 4611686018427387904) (w : World) :
    Calls Tryz.prog 90 #[.string s] w fun e w' => e = .returned (.bool (right s.data.toList)) ∧ Below w.heap.size w w' := by
  by_cases hz : s.size = 0
  · have HR := Lib.hid (show right s.data.toList = false by rw [List.eq_nil_of_length_eq_zero (show s.data.toList.length = 0 by rw [size_list]; exact hz)]; rfl)
    go_enter Tryz.func90, Tryz.ntmps90
    go_wp2
    go_ret
    exact ⟨by rw [HR.out]; rfl, Below.refl _ _⟩
  have hz' : ((s.size : Int) == 0) = false := by rw [beq_eq_false_iff_ne]; omega
  have HCt := Lib.hid (refCount_any s hs)
  have hcl : count s.data.toList ≤ s.size := by rw [← size_list]; exact runes_le _
  obtain ⟨c, hc⟩ : ∃ c, c = count s.data.toList := ⟨_, rfl⟩
  rw [← hc] at HCt hcl
  have HCE := Lib.hid hc
  clear hc
  by_cases h16 : 16 < c
  · have HR := Lib.hid (show right s.data.toList = false by
      cases h : right s.data.toList with
      | false => rfl
      | true =>
        obtain ⟨r, rs, e, _, _, h3⟩ := (right_iff _).1 h
        have := HCE.out
        unfold count at this
        rw [e, List.length_cons] at this
        omega)
    go_enter Tryz.func90, Tryz.ntmps90
    go_wp2_with (go_at_call 125; (with_reducible refine (HCt.out _).mono ?_); rintro e w' ⟨rfl, rfl⟩)
    go_ret
    exact ⟨by rw [HR.out]; rfl, Below.refl _ _⟩
  go_enter Tryz.func90, Tryz.ntmps90
  go_wp2_with (go_at_call 125; (with_reducible refine (HCt.out _).mono ?_); rintro e w' ⟨rfl, rfl⟩)
  go_loopw [3] (fun p wr => ∃ (pos : Nat) (done : List Nat), p = .int .i64 pos ∧ pos ≤ s.size ∧ runes s.data.toList = done ++ runes (s.data.toList.drop pos) ∧ Good done ∧ (done = [] ↔ pos = 0) ∧ Below w.heap.size w wr) (fun p _ => s.size - (intOf p).toNat)
  case atStart => exact ⟨0, [], rfl, Nat.zero_le _, rfl, trivial, by simp, Below.refl _ _⟩
  case round =>
    obtain ⟨pos, done, rfl, hps, hrun, hgood, hzero, hb⟩ := hrel
    have HRU := Lib.hid hrun
    have HGO := Lib.hid hgood
    have HZE := Lib.hid hzero
    clear hrun hgood hzero
    by_cases hp : pos < s.size
    · have hne := drop_ne hp
      have hle := dec_le hne
      rw [List.length_drop, size_list] at hle
      have hpos := dec_pos (l := s.data.toList.drop pos)
      have HL := Lib.hid (long_any (s.extract pos s.size) (by rw [ByteArray.size_extract]; omega))
      rw [extract_behind, str_toList] at HL
      have hx := extract_behind s pos
      have HN := Lib.hid (show runes s.data.toList = done ++ (dec (s.data.toList.drop pos)).1 :: runes (s.data.toList.drop (pos + (dec (s.data.toList.drop pos)).2)) by
        rw [HRU.out, runes_cons hne, List.drop_drop])
      by_cases hg : longL (s.data.toList.drop pos) = 0
      · have HB := Lib.hid (right_bad HN.out (by rw [longL_zero hne hg]; rfl) (.inr (by rw [longL_zero hne hg]; rfl)))
        obtain ⟨q, hq⟩ : ∃ q, q = str (s.data.toList.drop pos) := ⟨_, rfl⟩
        rw [← hq, hg] at HL
        rw [← hq] at hx
        clear hq hg hne hpos hle HN HRU
        go_wp2_with (go_at_call 126; (with_reducible refine (HL.out _).mono ?_); rintro e w' ⟨rfl, rfl⟩)
        go_ret
        exact ⟨by rw [HB.out]; rfl, hb⟩
      · have hgd := longL_some hne hg
        have forms := dec_forms hne hg
        obtain ⟨d, hd⟩ : ∃ d, d = (dec (s.data.toList.drop pos)).2 := ⟨_, rfl⟩
        obtain ⟨r, hr⟩ : ∃ r, r = (dec (s.data.toList.drop pos)).1 := ⟨_, rfl⟩
        rw [← hd] at hgd hle hpos HN forms
        rw [← hr] at HN forms
        rw [hgd] at HL
        have hq1 : (s.extract pos (pos + d)).size = d := by rw [ByteArray.size_extract]; omega
        have HLet : Hid (∀ w, Calls Tryz.prog 127 #[.string (s.extract pos (pos + d))] w fun e w' => e = .returned (.bool (isLetter r)) ∧ Below w.heap.size w w') := Lib.hid (fun w => by
          rcases forms with ⟨f1, f2, f3⟩ | ⟨f1, f2, f3, _⟩ | ⟨f1, f2⟩
          · exact letter_of_one _ (by rw [hq1, f1]) r (by rw [bt_extract _ _ _ _ (by omega), f2]) f3 w
          · exact letter_of_two _ (by rw [hq1, f1]) _ _ r (bt_extract _ _ _ _ (by omega)) (bt_extract _ _ _ _ (by omega)) f2 f3 w
          · exact letter_of_long _ (by omega) r f2 w)
        have HBad := Lib.hid (fun h1 h2 => right_bad HN.out (r := r) h1 h2)
        have HStep : Hid (isLetter r = true ∨ (pos ≠ 0 ∧ isInner r = true) → runes s.data.toList = (done ++ [r]) ++ runes (s.data.toList.drop (pos + d)) ∧ Good (done ++ [r]) ∧ (done ++ [r] = [] ↔ pos + d = 0)) := Lib.hid (fun h => by
          refine ⟨by rw [HN.out]; simp, good_snoc HGO.out ?_, by simp; omega⟩
          rcases h with h | ⟨h1, h2⟩
          · exact .inl h
          · exact .inr ⟨fun e => h1 (HZE.out.1 e), h2⟩)
        have hI : isInner r = (decide (r = 45) || (decide (48 ≤ r) && decide (r ≤ 57))) := rfl
        have HI := Lib.hid hI
        have hmark : (d = 1 ∧ bt (s.extract pos (pos + d)) 0 = (r : Int) ∧ r < 128 ∧ ((s.extract pos (pos + d)).toList == [45]) = decide (r = 45)) ∨ (2 ≤ d ∧ 128 ≤ r ∧ ((s.extract pos (pos + d)).toList == [45]) = false) := by
          rcases forms with ⟨f1, f2, f3⟩ | ⟨f1, f2, f3, _⟩ | ⟨f1, f2⟩
          · have hbq : bt (s.extract pos (pos + d)) 0 = (r : Int) := by rw [bt_extract _ _ _ _ (by omega), f2]
            exact .inl ⟨f1, hbq, f3, mark_one _ (by rw [hq1, f1]) r hbq⟩
          · exact .inr ⟨by omega, by omega, mark_more _ (by omega)⟩
          · exact .inr ⟨by omega, by omega, mark_more _ (by omega)⟩
        obtain ⟨q0, hq0⟩ : ∃ q0, q0 = str (s.data.toList.drop pos) := ⟨_, rfl⟩
        rw [← hq0] at HL hx
        obtain ⟨q, hq⟩ : ∃ q, q = s.extract pos (pos + d) := ⟨_, rfl⟩
        rw [← hq] at HLet hmark hq1
        have hqx : s.extract pos (pos + d) = q := hq.symm
        have hd0 : ((d : Int) == 0) = false := by rw [beq_eq_false_iff_ne]; omega
        have HZ2 := Lib.hid (show pos = 0 → done = [] from HZE.out.2)
        clear hq hq0 hd hr hgd forms hne hg HN HRU HGO HZE hI
        rcases hmark with ⟨rfl, hbq, h128, hmk⟩ | ⟨hd2, h128, hmk⟩
        · have hbt := get_bt q
          by_cases m1 : r = 45
          · have HIn := Lib.hid (show isInner r = true by rw [m1]; rfl)
            have HLT := Lib.hid (show isLetter r = false by rw [m1]; rfl)
            rw [decide_eq_true m1] at hmk
            clear m1
            by_cases p0 : pos = 0
            · have HB := Lib.hid (HBad.out HLT.out (.inl (HZ2.out p0)))
              have hp0 : ((pos : Int) == 0) = true := by rw [beq_iff_eq]; omega
              clear p0
              go_wp2_with (first | (go_at_call 126; (with_reducible refine (HL.out _).mono ?_); rintro e w' ⟨rfl, rfl⟩) | (go_at_call 127; (with_reducible refine (HLet.out _).mono ?_); rintro e w9 ⟨rfl, hb9⟩; rw [HLT.out]))
              go_ret
              exact ⟨by rw [HB.out]; rfl, hb.trans (hb9.mono hb.size)⟩
            · have P0 := Lib.hid p0
              have hp0 : ((pos : Int) == 0) = false := by rw [beq_eq_false_iff_ne]; omega
              clear p0
              go_wp2_with (first | (go_at_call 126; (with_reducible refine (HL.out _).mono ?_); rintro e w' ⟨rfl, rfl⟩) | (go_at_call 127; (with_reducible refine (HLet.out _).mono ?_); rintro e w9 ⟨rfl, hb9⟩; rw [HLT.out]))
              go_roundw
              case rel =>
                obtain ⟨s1, s2, s3⟩ := HStep.out (.inr ⟨P0.out, HIn.out⟩)
                exact ⟨pos + 1, done ++ [r], by go_num, by omega, s1, s2, s3, hb.trans (hb9.mono hb.size)⟩
              case measure => simp [intOf]; omega
          · rw [decide_eq_false m1] at hmk
            by_cases m2 : 48 ≤ r ∧ r ≤ 57
            · obtain ⟨m2, m3⟩ := m2
              have d2 : decide ((r : Int) ≤ 57) = true := decide_eq_true (by omega)
              have HIn := Lib.hid (show isInner r = true by rw [HI.out]; simp [m2, m3])
              have HLT := Lib.hid (show isLetter r = false by unfold isLetter; rw [decide_eq_false (show ¬ 97 ≤ r by omega), decide_eq_false (show ¬ 945 ≤ r by omega), decide_eq_false (show ¬ 1072 ≤ r by omega)]; rfl)
              clear m1
              by_cases p0 : pos = 0
              · have HB := Lib.hid (HBad.out HLT.out (.inl (HZ2.out p0)))
                have hp0 : ((pos : Int) == 0) = true := by rw [beq_iff_eq]; omega
                clear p0
                go_wp2_with (first | (go_at_call 126; (with_reducible refine (HL.out _).mono ?_); rintro e w' ⟨rfl, rfl⟩) | (go_at_call 127; (with_reducible refine (HLet.out _).mono ?_); rintro e w9 ⟨rfl, hb9⟩; rw [HLT.out]))
                go_ret
                exact ⟨by rw [HB.out]; rfl, hb.trans (hb9.mono hb.size)⟩
              · have P0 := Lib.hid p0
                have hp0 : ((pos : Int) == 0) = false := by rw [beq_eq_false_iff_ne]; omega
                clear p0
                go_wp2_with (first | (go_at_call 126; (with_reducible refine (HL.out _).mono ?_); rintro e w' ⟨rfl, rfl⟩) | (go_at_call 127; (with_reducible refine (HLet.out _).mono ?_); rintro e w9 ⟨rfl, hb9⟩; rw [HLT.out]))
                go_roundw
                case rel =>
                  obtain ⟨s1, s2, s3⟩ := HStep.out (.inr ⟨P0.out, HIn.out⟩)
                  exact ⟨pos + 1, done ++ [r], by go_num, by omega, s1, s2, s3, hb.trans (hb9.mono hb.size)⟩
                case measure => simp [intOf]; omega
            · have HIn := Lib.hid (show isInner r = false by rw [HI.out, decide_eq_false m1]; by_cases h : 48 ≤ r <;> simp [h]; omega)
              clear m1
              have m4 : (r < 48 ∧ decide ((48 : Int) ≤ (r : Int)) = false) ∨ (48 ≤ r ∧ 57 < r ∧ decide ((r : Int) ≤ 57) = false) := by
                rcases Nat.lt_or_ge r 48 with h | h
                · exact .inl ⟨h, decide_eq_false (by omega)⟩
                · exact .inr ⟨h, by omega, decide_eq_false (by omega)⟩
              clear m2
              have hl : Hid (isLetter r = true) ∨ Hid (isLetter r = false) := by cases h : isLetter r; exact .inr (Lib.hid rfl); exact .inl (Lib.hid rfl)
              have hp0 : ((pos : Int) == 0) = true ∨ ((pos : Int) == 0) = false := by cases ((pos : Int) == 0) <;> simp
              rcases hl with HLT | HLT
              · rcases m4 with ⟨m4, m6⟩ | ⟨m4, m5, m6⟩
                all_goals
                  go_wp2_with (first | (go_at_call 126; (with_reducible refine (HL.out _).mono ?_); rintro e w' ⟨rfl, rfl⟩) | (go_at_call 127; (with_reducible refine (HLet.out _).mono ?_); rintro e w9 ⟨rfl, hb9⟩; rw [HLT.out]))
                  go_roundw
                  case rel =>
                    obtain ⟨s1, s2, s3⟩ := HStep.out (.inl HLT.out)
                    exact ⟨pos + 1, done ++ [r], by go_num, by omega, s1, s2, s3, hb.trans (hb9.mono hb.size)⟩
                  case measure => simp [intOf]; omega
              · have HB := Lib.hid (HBad.out HLT.out (.inr HIn.out))
                rcases m4 with ⟨m4, m6⟩ | ⟨m4, m5, m6⟩ <;> rcases hp0 with hp0 | hp0
                all_goals
                  go_wp2_with (first | (go_at_call 126; (with_reducible refine (HL.out _).mono ?_); rintro e w' ⟨rfl, rfl⟩) | (go_at_call 127; (with_reducible refine (HLet.out _).mono ?_); rintro e w9 ⟨rfl, hb9⟩; rw [HLT.out]))
                  go_ret
                  exact ⟨by rw [HB.out]; rfl, hb.trans (hb9.mono hb.size)⟩
        · have HIn := Lib.hid (show isInner r = false by rw [HI.out, decide_eq_false (show ¬ r = 45 by omega), decide_eq_false (show ¬ r ≤ 57 by omega)]; simp)
          have hd1 : ((d : Int) == 1) = false := by rw [beq_eq_false_iff_ne]; omega
          have hl : Hid (isLetter r = true) ∨ Hid (isLetter r = false) := by cases h : isLetter r; exact .inr (Lib.hid rfl); exact .inl (Lib.hid rfl)
          have hp0 : ((pos : Int) == 0) = true ∨ ((pos : Int) == 0) = false := by cases ((pos : Int) == 0) <;> simp
          rcases hl with HLT | HLT
          · clear hp0
            go_wp2_with (first | (go_at_call 126; (with_reducible refine (HL.out _).mono ?_); rintro e w' ⟨rfl, rfl⟩) | (go_at_call 127; (with_reducible refine (HLet.out _).mono ?_); rintro e w9 ⟨rfl, hb9⟩; rw [HLT.out]))
            go_roundw
            case rel =>
              obtain ⟨s1, s2, s3⟩ := HStep.out (.inl HLT.out)
              exact ⟨pos + d, done ++ [r], by go_num, by omega, s1, s2, s3, hb.trans (hb9.mono hb.size)⟩
            case measure => simp [intOf]; omega
          · have HB := Lib.hid (HBad.out HLT.out (.inr HIn.out))
            rcases hp0 with hp0 | hp0
            all_goals
              go_wp2_with (first | (go_at_call 126; (with_reducible refine (HL.out _).mono ?_); rintro e w' ⟨rfl, rfl⟩) | (go_at_call 127; (with_reducible refine (HLet.out _).mono ?_); rintro e w9 ⟨rfl, hb9⟩; rw [HLT.out]))
              go_ret
              exact ⟨by rw [HB.out]; rfl, hb.trans (hb9.mono hb.size)⟩
    · have hfin := Lib.hid (show right s.data.toList = true by
        have e := HRU.out
        rw [List.drop_eq_nil_of_le (by rw [size_list]; omega), runes_nil, List.append_nil] at e
        refine right_done e HGO.out (fun h => ?_) ?_
        · have := HZE.out.1 h; omega
        · have := HCE.out; unfold count at this; rw [e] at this; omega)
      go_wp2
      go_ret
      exact ⟨by rw [hfin.out]; rfl, hb⟩
end Go.Proofs.YtbilkeadhflibaaGreatDoor.Word
