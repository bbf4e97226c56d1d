/- What word.Right and word.Count answer, for every text; of memory that was there nothing turns. -/
import Derived.Test.YthopegokjbibmaaDoorProg
import Derived.Test.YthopegokjbibmaaDoorWMath
import Derived.WalkKit
import Derived.WalkSpells
import Derived.WalkLawsBesides
import Derived.Laws.RangeString
import Derived.Laws.RangeAny
import Derived.LoopTactic
import Derived.Lib.Hide
import Derived.Lib.RuneCount
namespace Go.Proofs.YthopegokjbibmaaDoor.Word
open Go.RowKit

theorem letter_any (r : Nat) (w : World) :
    Calls Tryd.prog 64 #[.int .i32 (r : Int)] w fun e w' => e = .returned (.bool (isLetter r)) ∧ w = w' := by
  by_cases h1 : 97 ≤ r <;> by_cases h2 : r ≤ 122 <;> by_cases h3 : 945 ≤ r <;> by_cases h4 : r ≤ 969 <;> by_cases h5 : 1072 ≤ r <;> by_cases h6 : r ≤ 1103
  all_goals first | (exfalso; omega) | skip
  all_goals
    have HE : Hid (isLetter r = ((decide (97 ≤ r) && decide (r ≤ 122)) || (decide (945 ≤ r) && decide (r ≤ 969)) || (decide (1072 ≤ r) && decide (r ≤ 1103)))) := rfl
    go_enter Tryd.func64, Tryd.ntmps64
    go_wp2
    all_goals first | (exfalso; omega) | skip
    all_goals
      go_ret
      exact ⟨by rw [HE.out]; simp [h1, h2, h3, h4, h5, h6], rfl⟩
theorem inner_any (r : Nat) (w : World) :
    Calls Tryd.prog 65 #[.int .i32 (r : Int)] w fun e w' => e = .returned (.bool (isInner r)) ∧ w = w' := by
  have HE : Hid (isInner r = (decide (r = 45) || (decide (48 ≤ r) && decide (r ≤ 57)))) := rfl
  by_cases h0 : r = 45
  · subst h0
    go_enter Tryd.func65, Tryd.ntmps65
    go_wp2
    go_ret
    exact ⟨by rw [HE.out]; rfl, rfl⟩
  · have h0' : ((r : Int) == 45) = false := by rw [beq_eq_false_iff_ne]; omega
    by_cases h1 : 48 ≤ r <;> by_cases h2 : r ≤ 57
    all_goals first | (exfalso; omega) | skip
    all_goals
      have hz := h0
      clear h0
      go_enter Tryd.func65, Tryd.ntmps65
      go_wp2
      all_goals first | (exfalso; omega) | skip
      all_goals
        go_ret
        exact ⟨by rw [HE.out]; simp [hz, h1, h2] <;> omega, rfl⟩

theorem iter_below (w : World) (s : ByteArray) (pos : Nat) : Below w.heap.size w (w.iter s pos) := (Below.refl _ _).alloc (Nat.le_refl _) _

theorem rightR_stop {k r : Nat} {rs : List Nat} (h : k = 16 ∨ (isLetter r = false ∧ (k = 0 ∨ isInner r = false))) : rightR k (r :: rs) = false := by rw [rightR, if_pos h]
theorem rightR_step {k r : Nat} {rs : List Nat} (h : ¬ (k = 16 ∨ (isLetter r = false ∧ (k = 0 ∨ isInner r = false)))) : rightR k (r :: rs) = rightR (k + 1) rs := by rw [rightR, if_neg h]

set_option maxHeartbeats 4000000 in
theorem right_any (s : ByteArray) (w : World) :
    Calls Tryd.prog 51 #[.string s] w fun e w' => e = .returned (.bool (right s.data.toList)) ∧ Below w.heap.size w w' := by
  go_enter Tryd.func51, Tryd.ntmps51
  go_wp2
  go_loopw [3] (fun n w' => ∃ (pos k : Nat), w' = w.iter s pos ∧ n = .int .i64 k ∧ rightR k (runes (s.data.toList.drop pos)) = right s.data.toList ∧ k ≤ 16) (fun _ w' => s.size - w'.iterPos w.heap.size)
  case atStart => exact ⟨0, 0, rfl, rfl, rfl, by omega⟩
  case round =>
    obtain ⟨pos, k, rfl, rfl, hc, ha⟩ := hrel
    have HC := Lib.hid hc
    clear hc
    by_cases hp : pos < s.size
    · have hnx : ∀ ty, (Instr.next (.pointer (some ⟨w.heap.size, 0, none⟩)) true ty).run Tryd.prog (w.iter s pos) = _ := fun ty => run_next_any w s pos ty hp
      have hwd := Lib.decode_width_pos s pos hp
      have hne : s.data.toList.drop pos ≠ [] := by
        intro h
        have := congrArg List.length h
        rw [List.length_drop, size_list] at this
        simp at this
        omega
      have HR : Hid (runes (s.data.toList.drop pos) = (Utf8.decode s pos).1 :: runes (s.data.toList.drop (pos + (Utf8.decode s pos).2))) := Lib.hid (by
        rw [runes_cons hne, List.drop_drop, decode_drop])
      clear hne
      obtain ⟨r, hr⟩ : ∃ r, r = (Utf8.decode s pos).1 := ⟨_, rfl⟩
      obtain ⟨d, hd⟩ : ∃ d, d = (Utf8.decode s pos).2 := ⟨_, rfl⟩
      rw [← hr, ← hd] at HR hnx
      rw [← hd] at hwd
      clear hr hd
      have e16 : k = 16 ∨ (k ≠ 16 ∧ ((k : Int) == 16) = false) := by
        by_cases h : k = 16
        · exact .inl h
        · exact .inr ⟨h, by rw [beq_eq_false_iff_ne]; omega⟩
      rcases e16 with rfl | ⟨h16, h16'⟩
      · go_wp2
        go_ret
        exact ⟨by rw [← HC.out, HR.out, rightR_stop (.inl rfl)]; rfl, iter_below _ _ _⟩
      · have hl : Hid (isLetter r = true) ∨ Hid (isLetter r = false) := by cases h : isLetter r; exact .inr (Lib.hid rfl); exact .inl (Lib.hid rfl)
        have hlt : k < 16 := by omega
        clear h16
        rcases hl with hl | hl
        · go_wp2_with (go_at_call 64; refine (letter_any r _).mono ?_; rintro e w' ⟨rfl, rfl⟩; rw [hl.out])
          go_roundw
          case rel => exact ⟨pos + d, k + 1, rfl, by go_num, by rw [← HC.out, HR.out, rightR_step (by rw [hl.out]; simp; omega)], by omega⟩
          case measure => simp; omega
        · have hk : (k = 0) ∨ (k ≠ 0 ∧ ((k : Int) == 0) = false) := by
            by_cases h : k = 0
            · exact .inl h
            · exact .inr ⟨h, by rw [beq_eq_false_iff_ne]; omega⟩
          rcases hk with rfl | ⟨h0, h0'⟩
          · go_wp2_with (go_at_call 64; refine (letter_any r _).mono ?_; rintro e w' ⟨rfl, rfl⟩; rw [hl.out])
            go_ret
            exact ⟨by rw [← HC.out, HR.out, rightR_stop (.inr ⟨hl.out, .inl rfl⟩)]; rfl, iter_below _ _ _⟩
          · have hi : Hid (isInner r = true) ∨ Hid (isInner r = false) := by cases h : isInner r; exact .inr (Lib.hid rfl); exact .inl (Lib.hid rfl)
            have H0 := Lib.hid h0
            clear h0
            rcases hi with hi | hi
            · go_wp2_with (first | (go_at_call 64; refine (letter_any r _).mono ?_; rintro e w' ⟨rfl, rfl⟩; rw [hl.out]) | (go_at_call 65; refine (inner_any r _).mono ?_; rintro e w' ⟨rfl, rfl⟩; rw [hi.out]))
              go_roundw
              case rel => exact ⟨pos + d, k + 1, rfl, by go_num, by rw [← HC.out, HR.out, rightR_step (by rw [hl.out, hi.out]; have := H0.out; simp; omega)], by omega⟩
              case measure => simp; omega
            · go_wp2_with (first | (go_at_call 64; refine (letter_any r _).mono ?_; rintro e w' ⟨rfl, rfl⟩; rw [hl.out]) | (go_at_call 65; refine (inner_any r _).mono ?_; rintro e w' ⟨rfl, rfl⟩; rw [hi.out]))
              go_ret
              exact ⟨by rw [← HC.out, HR.out, rightR_stop (.inr ⟨hl.out, .inr hi.out⟩)]; rfl, iter_below _ _ _⟩
    · have hnx : ∀ ty, (Instr.next (.pointer (some ⟨w.heap.size, 0, none⟩)) true ty).run Tryd.prog (w.iter s pos) = _ := fun ty => run_next_end w s pos ty hp
      have HC' : Hid (right s.data.toList = decide (0 < k)) := by
        have hc := HC.out
        rw [List.drop_eq_nil_of_le (by rw [size_list]; omega), runes_nil] at hc
        exact hc.symm
      go_wp2
      go_ret
      exact ⟨by rw [HC'.out]; simp, iter_below _ _ _⟩
end Go.Proofs.YthopegokjbibmaaDoor.Word
