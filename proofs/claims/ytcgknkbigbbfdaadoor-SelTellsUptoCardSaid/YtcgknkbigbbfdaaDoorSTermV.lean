/- What sel.parseTerm answers of any piece, in one form: the term that is read of it, if it is right; else it leaves by a panic. -/
import Derived.Test.YtcgknkbigbbfdaaDoorSTerm
namespace Go.Proofs.YtcgknkbigbbfdaaDoor.Sel
open Go.RowKit Go.Proofs.YtcgknkbigbbfdaaDoor.Texts Go.Proofs.YtcgknkbigbbfdaaDoor.Word Go.Proofs.YtcgknkbigbbfdaaDoor.Forms Go.Proofs.YtcgknkbigbbfdaaDoor.Split Go.Proofs.YtcgknkbigbbfdaaDoor.Boxes

theorem cutAt_small (l : List UInt8) (c : UInt8) : (cutAt l c).1.length ≤ l.length ∧ (cutAt l c).2.1.length ≤ l.length := by
  unfold cutAt
  split
  · simp
  · exact ⟨by simp only [List.length_take]; omega, by simp only [List.length_drop]; omega⟩
theorem readP_ahead {l : List UInt8} (h : l.head? = some 33) : readP l = (str l.tail, true, []) := by unfold readP; rw [if_pos h]
theorem readP_bare {l : List UInt8} (h : ¬ l.head? = some 33) (hc : (cutAt l 61).2.2 = false) : readP l = (str l, false, []) := by unfold readP; rw [if_neg h, if_pos hc]
theorem readP_full {l : List UInt8} (h : ¬ l.head? = some 33) (hc : (cutAt l 61).2.2 = true) {k : ByteArray} {n : Bool} (hk : sufV 33 (str (cutAt l 61).1) = .tuple #[.string k, .bool n]) :
    readP l = (k, n, (cuts 124 (cutAt l 61).2.1).map str) := by
  unfold readP
  rw [if_neg h, if_neg (by rw [hc]; simp)]
  unfold sufV at hk
  rw [str_toList] at hk
  split
  · rename_i hl
    rw [if_pos hl] at hk
    simp only [Value.tuple.injEq, Array.mk.injEq, List.cons.injEq, Value.string.injEq, Value.bool.injEq, and_true] at hk
    rw [hk.1, hk.2]
  · rename_i hl
    rw [if_neg hl] at hk
    simp only [Value.tuple.injEq, Array.mk.injEq, List.cons.injEq, Value.string.injEq, Value.bool.injEq, and_true] at hk
    rw [hk.1, hk.2]
theorem sufV_form (c : UInt8) (s : ByteArray) : ∃ k n, sufV c s = .tuple #[.string k, .bool n] := by
  unfold sufV
  split
  · exact ⟨_, _, rfl⟩
  · exact ⟨_, _, rfl⟩
theorem cutAt_first {l : List UInt8} {c : UInt8} (h : (cutAt l c).2.2 = false) : (cutAt l c).1 = l := by
  unfold cutAt at *
  split
  · rfl
  · rename_i hn
    rw [if_neg hn] at h
    cases h

/-- What is known at the door of parseTerm. -/
theorem door (q : ByteArray) (hs : q.size ≤ 4611686018427387904) :
    (q.data.toList.head? = some 33 ∧ readP q.data.toList = (str q.data.toList.tail, true, []) ∧ ∀ W, Calls Tryd.prog 57 #[.string q, .string ⟨#[33]⟩] W fun e w' => e = .returned (.tuple #[.string (str q.data.toList.tail), .bool true]) ∧ w' = W) ∨
    (¬ q.data.toList.head? = some 33 ∧ (∀ W, Calls Tryd.prog 57 #[.string q, .string ⟨#[33]⟩] W fun e w' => e = .returned (.tuple #[.string q, .bool false]) ∧ w' = W) ∧
      ((readP q.data.toList = (q, false, []) ∧ ∃ j, ∀ W, Calls Tryd.prog 58 #[.string q, .string ⟨#[61]⟩] W fun e w' => e = .returned (.tuple #[.string q, .string j, .bool false]) ∧ Below W.heap.size W w') ∨
       (∃ l r k n, r.size ≤ q.size ∧ readP q.data.toList = (k, n, (cuts 124 r.data.toList).map str) ∧ (∀ W, Calls Tryd.prog 58 #[.string q, .string ⟨#[61]⟩] W fun e w' => e = .returned (.tuple #[.string l, .string r, .bool true]) ∧ Below W.heap.size W w') ∧
          ∀ W, Calls Tryd.prog 59 #[.string l, .string ⟨#[33]⟩] W fun e w' => e = .returned (.tuple #[.string k, .bool n]) ∧ w' = W))) := by
  by_cases h : q.data.toList.head? = some 33
  · refine .inl ⟨h, readP_ahead h, fun W => ?_⟩
    have := prefix_any 33 q hs W
    unfold preV at this
    rw [if_pos h] at this
    exact this
  · refine .inr ⟨h, fun W => ?_, ?_⟩
    · have := prefix_any 33 q hs W
      unfold preV at this
      rw [if_neg h] at this
      exact this
    · cases hc : (cutAt q.data.toList 61).2.2 with
      | false =>
        refine .inl ⟨by rw [readP_bare h hc, str_data], str (cutAt q.data.toList 61).2.1, fun W => ?_⟩
        have := cut_any 61 q hs W
        unfold cutV at this
        rw [hc, cutAt_first hc, str_data] at this
        exact this
      | true =>
        obtain ⟨k, n, hk⟩ := sufV_form 33 (str (cutAt q.data.toList 61).1)
        have hsm := cutAt_small q.data.toList 61
        rw [size_list] at hsm
        refine .inr ⟨str (cutAt q.data.toList 61).1, str (cutAt q.data.toList 61).2.1, k, n, by rw [str_len]; exact hsm.2, ?_, fun W => ?_, fun W => ?_⟩
        · rw [readP_full h hc hk, str_toList]
        · have := cut_any 61 q hs W
          unfold cutV at this
          rw [hc] at this
          exact this
        · rw [← hk]
          exact suffix_any 33 _ (by rw [str_len]; omega) W

theorem parseTerm_yes (q : ByteArray) (hs : q.size ≤ 4611686018427387904) (h : rightT (readP q.data.toList) = true) (w : World) :
    Calls Tryd.prog 35 #[.string q] w (Read (readP q.data.toList) w) := by
  rcases door q hs with ⟨_, hr, HP⟩ | ⟨_, HP, ⟨hr, j, HC⟩ | ⟨l, r, k, n, hrs, hr, HC, HX⟩⟩
  · rw [hr] at h ⊢
    exact ahead_yes q _ w (Lib.hid HP) (Lib.hid fun W _ => sure_yes _ true none 0 [] W (SRow.nil W) (by simp) h)
  · rw [hr] at h ⊢
    exact bare_yes q q j w (Lib.hid HP) (Lib.hid HC) (Lib.hid fun W _ => sure_yes _ false none 0 [] W (SRow.nil W) (by simp) h)
  · rw [hr] at h ⊢
    have h4 := (rightT_parts h).2.1
    simp only [List.length_map] at h4
    exact full_yes q l r k n _ w (Lib.hid HP) (Lib.hid HC) (Lib.hid HX) (Lib.hid fun W => split_new 124 r (by omega) h4 W) (Lib.hid fun a cap W hv => sure_yes k n a cap _ W hv (by rw [List.length_map]; omega) h)
theorem parseTerm_no (q : ByteArray) (hs : q.size ≤ 4611686018427387904) (h : rightT (readP q.data.toList) = false) (w : World) (hE : Err w) :
    Calls Tryd.prog 35 #[.string q] w fun e w' => Falls e ∧ Below w.heap.size w w' := by
  rcases door q hs with ⟨_, hr, HP⟩ | ⟨_, HP, ⟨hr, j, HC⟩ | ⟨l, r, k, n, hrs, hr, HC, HX⟩⟩
  · rw [hr] at h
    exact ahead_no q _ w (Lib.hid HP) (Lib.hid fun W _ hE => sure_no _ true none 0 [] W (SRow.nil W) (by simp) h hE) hE
  · rw [hr] at h
    exact bare_no q q j w (Lib.hid HP) (Lib.hid HC) (Lib.hid fun W _ hE => sure_no _ false none 0 [] W (SRow.nil W) (by simp) h hE) hE
  · rw [hr] at h
    by_cases h4 : (cuts 124 r.data.toList).length ≤ 4
    · exact full_no q l r k n _ w (Lib.hid HP) (Lib.hid HC) (Lib.hid HX) (Lib.hid fun W => split_new 124 r (by omega) h4 W) (Lib.hid fun a cap W hv hE => sure_no k n a cap _ W hv (by rw [List.length_map]; omega) h hE) hE
    · exact full_many q l r k n w (Lib.hid HP) (Lib.hid HC) (Lib.hid HX) (Lib.hid fun W hE => split_no 124 r (by omega) (by omega) W hE) hE
end Go.Proofs.YtcgknkbigbbfdaaDoor.Sel
