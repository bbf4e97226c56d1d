/- What the document's own one tells of any piece that is not too long for a machine, in one form. -/
import Derived.Test.YtbilkeadhflibaaGreatDoorSRefB
namespace Go.Proofs.YtbilkeadhflibaaGreatDoor.Sel
open Go.RowKit Go.Proofs.YtbilkeadhflibaaGreatDoor.Texts Go.Proofs.YtbilkeadhflibaaGreatDoor.Word Go.Proofs.YtbilkeadhflibaaGreatDoor.Forms Go.Proofs.YtbilkeadhflibaaGreatDoor.Boxes Go.Proofs.YtbilkeadhflibaaGreatDoor.Label

theorem cut_new (c : UInt8) (q : Int) (hq : (c.toNat : Int) = q) (s : ByteArray) (hs : s.size ≤ 1048576) (W : World) :
    Calls Tryz.prog 85 #[.string s, .int .u8 q] W fun e w' => (∃ v, e = .returned v ∧ SNew W.heap.size w' v ((cuts c s.data.toList).map str)) ∧ Below W.heap.size W w' := by
  rw [← hq]
  refine (cut_rows s hs c W).mono ?_
  rintro e w' ⟨⟨v, rfl, h1, h2⟩, hb⟩
  exact ⟨⟨v, rfl, h1, fun g o n c e _ => h2 g (by rw [e]; rfl)⟩, hb⟩
theorem two_none {ls : List (List UInt8)} (h : twoT ls = none) : ls.length ≠ 2 := by
  intro e
  match ls, e with
  | [a, b], _ => cases h
theorem two_some {ls : List (List UInt8)} {x : List UInt8 × List UInt8} (h : twoT ls = some x) : ls = [x.1, x.2] := by
  unfold twoT at h
  split at h
  · cases h; rfl
  · cases h
theorem at_byte (s : ByteArray) (k : Nat) (h : k < s.size) : s.data.toList[k]? = some (s[k]'h) := by
  rw [Array.getElem?_toList]
  exact Array.getElem?_eq_getElem h

theorem refOne_any (s : ByteArray) (hs : s.size ≤ 1048576) (w : World) :
    Calls Tryz.prog 86 #[.string s] w (OneR (readT s.data.toList) w) := by
  have hls := size_list s
  by_cases h33 : s.data.toList.head? = some 33
  · have e : readT s.data.toList = (str s.data.toList.tail, true, []) := by unfold readT; rw [if_pos h33]
    have h0 : 0 < s.size := by
      rw [← hls]
      cases hl : s.data.toList with
      | nil => rw [hl] at h33; cases h33
      | cons a r => simp
    rw [e]
    refine one_ahead s _ h0 ?_ ?_ hs w
    · have h1 := at_byte s 0 h0
      rw [← List.head?_eq_getElem?, h33] at h1
      exact (Option.some.inj h1).symm
    · rw [extract_mid, List.take_of_length_le (by rw [List.length_drop]; omega), List.drop_one]
  · have hb33 : ∀ h0 : 0 < s.size, ¬ s[0]'h0 = 33 := fun h0 h => h33 (by rw [List.head?_eq_getElem?, at_byte s 0 h0, h])
    cases h2 : twoT (cuts 61 s.data.toList) with
    | none =>
      have e : readT s.data.toList = (s, false, []) := by unfold readT; rw [if_neg h33, h2]; simp only; rw [str_data]
      rw [e]
      have HC : Hid (∀ W, Calls Tryz.prog 85 #[.string s, .int .u8 61] W fun e w' => (∃ a cap, e = .returned (.slice a (cuts 61 s.data.toList).length cap)) ∧ Below W.heap.size W w') := Lib.hid fun W => by
        refine (cut_new 61 61 rfl s hs W).mono ?_
        rintro e w' ⟨⟨v, rfl, h⟩, hb⟩
        obtain ⟨a, cap, rfl, _⟩ := h.row.slice
        exact ⟨⟨a, cap, by rw [List.length_map]⟩, hb⟩
      by_cases h0 : s.size = 0
      · exact one_none s h0 w _ (two_none h2) HC
      · exact one_bare s (by omega) (hb33 (by omega)) w _ (two_none h2) HC
    | some x =>
      have hx := two_some h2
      obtain ⟨a, b⟩ := x
      simp only at hx
      have h0 : 0 < s.size := by
        rw [← hls]
        cases hl : s.data.toList with
        | nil => rw [hl] at hx; cases hx
        | cons a r => simp
      have hlen := (cuts_len 61 s.data.toList).2
      rw [hx] at hlen
      have ha := hlen a (by simp)
      have hbl := hlen b (by simp)
      have hKs : (str a).size ≤ 1048576 := by rw [str_len]; omega
      have hBs : (str b).size ≤ 1048576 := by rw [str_len]; omega
      have HC : Hid (∀ W, Calls Tryz.prog 85 #[.string s, .int .u8 61] W fun e w' => (∃ v, e = .returned v ∧ SRow w' v [str a, str b]) ∧ Below W.heap.size W w') := Lib.hid fun W => by
        refine (cut_new 61 61 rfl s hs W).mono ?_
        rintro e w' ⟨⟨v, rfl, h⟩, hb⟩
        rw [hx] at h
        exact ⟨⟨v, rfl, h.row⟩, hb⟩
      have HD : Hid (∀ W, Calls Tryz.prog 85 #[.string (str b), .int .u8 124] W fun e w' => (∃ v, e = .returned v ∧ SNew W.heap.size w' v ((cuts 124 b).map str)) ∧ Below W.heap.size W w') := Lib.hid fun W => by
        have := cut_new 124 124 rfl (str b) hBs W
        rw [str_toList] at this
        exact this
      cases hlast : a.getLast? with
      | none =>
        have e : readT s.data.toList = (str a, false, (cuts 124 b).map str) := by unfold readT; rw [if_neg h33, h2]; simp only; rw [hlast, if_neg (by simp)]
        rw [e]
        have hnil : a = [] := List.getLast?_eq_none_iff.1 hlast
        exact one_empty s (str a) (str b) (by rw [str_len, hnil]; rfl) hs h0 (hb33 h0) w _ HC HD
      | some y =>
        have hne : a ≠ [] := by intro h; rw [h] at hlast; cases hlast
        have hpos : 0 < a.length := List.length_pos_iff.2 hne
        have hKn : (str a).size = (a.length - 1) + 1 := by rw [str_len]; omega
        have hy : (str a)[a.length - 1]'(by omega) = y := by
          have h1 := at_byte (str a) (a.length - 1) (by omega)
          rw [str_toList, ← List.getLast?_eq_getElem?, hlast] at h1
          exact (Option.some.inj h1).symm
        by_cases hy33 : y = 33
        · have e : readT s.data.toList = (str a.dropLast, true, (cuts 124 b).map str) := by unfold readT; rw [if_neg h33, h2]; simp only; rw [hlast, if_pos (by rw [hy33])]
          rw [e]
          refine one_bang s (str a) (str b) _ (a.length - 1) hKn hKs ?_ ?_ hs h0 (hb33 h0) w _ HC HD
          · rw [hy, hy33]; rfl
          · rw [extract_mid, str_toList, List.drop_zero, Nat.sub_zero, List.dropLast_eq_take]
        · have e : readT s.data.toList = (str a, false, (cuts 124 b).map str) := by unfold readT; rw [if_neg h33, h2]; simp only; rw [hlast, if_neg (by simp [hy33])]
          rw [e]
          refine one_plain s (str a) (str b) (a.length - 1) hKn hKs ?_ hs h0 (hb33 h0) w _ HC HD
          rw [hy, beq_eq_false_iff_ne]
          intro h
          exact hy33 (UInt8.toNat_inj.1 (by show y.toNat = 33; omega))
end Go.Proofs.YtbilkeadhflibaaGreatDoor.Sel
