/- The chapter's examples, as demesnelaw07.examples asks them: they are so; of memory that was there nothing turns. -/
import Derived.Test.YthopegokjbibmaaDoorMNarrow
import Derived.Test.YthopegokjbibmaaDoorMGet
import Derived.Test.YthopegokjbibmaaDoorMAllows
import Derived.Test.YthopegokjbibmaaDoorMKnown
import Derived.Test.YthopegokjbibmaaDoorHHex
namespace Go.Proofs.YthopegokjbibmaaDoor.Mac
open Go.RowKit Go.Proofs.YthopegokjbibmaaDoor.Sha
open Go.Proofs.YthopegokjbibmaaDoor.Boxes (cells3 keep)

theorem hexed (s t : ByteArray) (hs : s.size ≤ 140737488355328) (h : hexL s.data.toList = t.data.toList) (w : World) : Calls Tryd.prog 27 #[.string s] w fun e w' => e = .returned (.string t) ∧ Below w.heap.size w w' := by
  have := hex_any s hs w
  rwa [h, str_of] at this
theorem fair12 : Fair (1, 2) := by unfold Fair; simp only; omega
theorem fair_one {c : Cav} (h : Fair c) : ∀ x ∈ [c], Fair x := fun x hx => by rw [List.mem_singleton] at hx; rw [hx]; exact h
set_option maxRecDepth 100000 in
theorem form_a : formL [97] [(1, 2)] (signL (signL [107, 101, 121] [97]) (putC (1, 2))) = true := by
  unfold formL
  rw [signL_len]
  decide +kernel
theorem put_len : (putT [97] [(1, 2)] (signL (signL [107, 101, 121] [97]) (putC (1, 2)))).length ≤ 1000 := by
  unfold putT
  rw [if_pos form_a]
  simp only [List.length_append, signL_len]
  have h1 := Wire.putL_ten (u := [(97 : UInt8)].length) (by decide)
  have h2 := Wire.putL_ten (u := [((1 : Int), 2)].length) (by decide)
  have h3 := bodyL_len (cs := [(1, 2)]) (fair_one fair12)
  simp only [List.length_cons, List.length_nil] at h1 h2 h3 ⊢
  omega
theorem extract_of {s : ByteArray} {a b : Nat} {l : List UInt8} (h : (s.data.toList.drop a).take (b - a) = l) : s.extract a b = str l := by
  rw [← str_of (s.extract a b), extract_list, h]
theorem chainL_nil (s : List UInt8) : chainL s [] = s := rfl
theorem chainL_one (s : List UInt8) (c : Cav) : chainL s [c] = signL s (putC c) := rfl
/-- The token's sum, and that of the narrowed one. -/
theorem ex_new : ∃ S0 S1 P : ByteArray, S0.size = 32 ∧ S1.size = 32 ∧ P.size ≤ 1000 ∧
    (∀ w, Roots w → Calls Tryd.prog 12 #[.string ⟨#[107, 101, 121]⟩, .string ⟨#[97]⟩] w fun e w' => e = .returned (.agg #[.string ⟨#[97]⟩, .slice none 0 0, .string S0]) ∧ Below w.heap.size w w') ∧
    (∀ w, Roots w → Calls Tryd.prog 11 #[.agg #[.string ⟨#[97]⟩, .slice none 0 0, .string S0], .agg #[.int .i64 1, .int .u64 2]] w fun e w' => (∃ a n c, e = .returned (.agg #[.string ⟨#[97]⟩, .slice a n c, .string S1]) ∧ Row w' (.slice a n c) [(1, 2)]) ∧ Below w.heap.size w w') ∧
    (∀ w v, Row w v [(1, 2)] → Calls Tryd.prog 24 #[.agg #[.string ⟨#[97]⟩, v, .string S1]] w fun e w' => e = .returned (.string P) ∧ Below w.heap.size w w') ∧
    (∀ w, Calls Tryd.prog 13 #[.string (⟨#[120]⟩ ++ P), .int .i64 1] w fun e w' => (∃ X a c, e = .returned (.tuple #[.agg #[.string X, .slice a 1 c, .string S1], .int .i64 ((P.size : Int) + 1), .bool true])) ∧ Below w.heap.size w w') ∧
    (∀ w, Roots w → Calls Tryd.prog 20 #[.string ⟨#[107, 101, 121]⟩, .agg #[.string ⟨#[97]⟩, .slice none 0 0, .string S0]] w fun e w' => e = .returned (.bool true) ∧ Below w.heap.size w w') ∧
    (∀ w v, Roots w → Row w v [(1, 2)] → Calls Tryd.prog 20 #[.string ⟨#[107, 101, 121]⟩, .agg #[.string ⟨#[97]⟩, v, .string S1]] w fun e w' => e = .returned (.bool true) ∧ Below w.heap.size w w') ∧
    (∀ w v, Roots w → Row w v [(1, 2)] → Calls Tryd.prog 20 #[.string ⟨#[107, 101, 122]⟩, .agg #[.string ⟨#[97]⟩, v, .string S1]] w fun e w' => e = .returned (.bool false) ∧ Below w.heap.size w w') := by
  have a1 : signL [107, 101, 121] [97] = signL (⟨#[107, 101, 121]⟩ : ByteArray).data.toList (⟨#[97]⟩ : ByteArray).data.toList := rfl
  refine ⟨str (signL [107, 101, 121] [97]), str (signL (signL [107, 101, 121] [97]) (putC (1, 2))), str (putT [97] [(1, 2)] (signL (signL [107, 101, 121] [97]) (putC (1, 2)))), by rw [str_size, signL_len], by rw [str_size, signL_len], ?_, fun w h => ?_, fun w h => ?_, fun w v h => ?_, fun w => ?_, fun w h => ?_, fun w v h hv => ?_, fun w v h hv => ?_⟩
  · rw [str_size]; exact put_len
  · exact new_any ⟨#[107, 101, 121]⟩ ⟨#[97]⟩ (show 3 ≤ 1125899906842624 by decide) (show 1 ≤ 1125899906842624 by decide) w h
  · refine (narrow_any ⟨#[97]⟩ (str (signL [107, 101, 121] [97])) _ [] (1, 2) fair12 (by rw [str_size, signL_len]; omega) w h (Row.nil w) (by simp)).mono ?_
    rintro e w' ⟨⟨v, rfl, hown⟩, hb⟩
    have hr := hown.row (fair_one fair12)
    obtain ⟨a, c, rfl, _⟩ := hown.slice
    rw [str_toList]
    exact ⟨⟨a, _, c, rfl, hr⟩, hb⟩
  · have := put_any ⟨#[97]⟩ v [(1, 2)] (str (signL (signL [107, 101, 121] [97]) (putC (1, 2)))) w h (by simp)
    rwa [str_toList] at this
  · obtain ⟨a, b, q, hg, hten, hsig, hq, hpa, hab, hbq⟩ := get_put (s := [120] ++ putT [97] [(1, 2)] (signL (signL [107, 101, 121] [97]) (putC (1, 2)))) (p := 1) (r := []) form_a (fair_one fair12) (by simp)
    have hsz : (⟨#[120]⟩ ++ str (putT [97] [(1, 2)] (signL (signL [107, 101, 121] [97]) (putC (1, 2)))) : ByteArray) = str ([120] ++ putT [97] [(1, 2)] (signL (signL [107, 101, 121] [97]) (putC (1, 2)))) := glue [120] _
    have hP := put_len
    generalize putT [97] [(1, 2)] (signL (signL [107, 101, 121] [97]) (putC (1, 2))) = P at hP hg hten hsig hq hsz ⊢
    rw [hsz]
    have hPl : P.length ≤ 1000 := hP
    refine (get_any (str ([120] ++ P)) (by rw [str_size]; simp only [List.length_append, List.length_cons, List.length_nil]; omega) 1 w).mono ?_
    rintro e w' h
    rw [str_toList, show (1 : Int) = ((1 : Nat) : Int) from rfl, hg] at h
    obtain ⟨⟨v, rfl, hown⟩, hb⟩ := h
    obtain ⟨a', c, rfl, _⟩ := hown.slice
    have e1 : (str ([120] ++ P)).extract q (q + 32) = str (signL (signL [107, 101, 121] [97]) (putC (1, 2))) := extract_of (by rw [str_toList, Nat.add_sub_cancel_left]; exact hsig)
    refine ⟨⟨(str ([120] ++ P)).extract a b, a', c, ?_⟩, hb⟩
    simp only [e1]
    rw [hq, str_size]
    simp only [Int.natCast_add, Int.add_comm]
    rfl
  · have := check_any ⟨#[107, 101, 121]⟩ ⟨#[97]⟩ (str (signL [107, 101, 121] [97])) _ [] (show 3 ≤ 1125899906842624 by decide) (show 1 ≤ 1125899906842624 by decide) w h (Row.nil w) (by simp)
    rwa [str_toList, show checkL (⟨#[107, 101, 121]⟩ : ByteArray).data.toList (⟨#[97]⟩ : ByteArray).data.toList [] (signL [107, 101, 121] [97]) = true by
      unfold checkL; rw [show mayL [] = true from rfl, Bool.true_and, decide_eq_true_eq, chainL_nil]] at this
  · have := check_any ⟨#[107, 101, 121]⟩ ⟨#[97]⟩ (str (signL (signL [107, 101, 121] [97]) (putC (1, 2)))) v [(1, 2)] (show 3 ≤ 1125899906842624 by decide) (show 1 ≤ 1125899906842624 by decide) w h hv (by simp)
    rwa [str_toList, show checkL (⟨#[107, 101, 121]⟩ : ByteArray).data.toList (⟨#[97]⟩ : ByteArray).data.toList [(1, 2)] (signL (signL [107, 101, 121] [97]) (putC (1, 2))) = true by
      unfold checkL; rw [show mayL [(1, 2)] = true by decide, Bool.true_and, decide_eq_true_eq, chainL_one]] at this
  · have := check_any ⟨#[107, 101, 122]⟩ ⟨#[97]⟩ (str (signL (signL [107, 101, 121] [97]) (putC (1, 2)))) v [(1, 2)] (show 3 ≤ 1125899906842624 by decide) (show 1 ≤ 1125899906842624 by decide) w h hv (by simp)
    rwa [str_toList, show checkL (⟨#[107, 101, 122]⟩ : ByteArray).data.toList (⟨#[97]⟩ : ByteArray).data.toList [(1, 2)] (signL (signL [107, 101, 121] [97]) (putC (1, 2))) = false by
      unfold checkL; rw [show mayL [(1, 2)] = true by decide, Bool.true_and, decide_eq_false_iff_not]; exact kez_other] at this
theorem ex_jefe : ∃ J : ByteArray, (∀ w, Roots w → Calls Tryd.prog 17 #[.string ⟨#[74, 101, 102, 101]⟩, .string ⟨#[119, 104, 97, 116, 32, 100, 111, 32, 121, 97, 32, 119, 97, 110, 116, 32, 102, 111, 114, 32, 110, 111, 116, 104, 105, 110, 103, 63]⟩] w fun e w' => e = .returned (.string J) ∧ Below w.heap.size w w') ∧
    ∀ w, Calls Tryd.prog 27 #[.string J] w fun e w' => e = .returned (.string ⟨#[53, 98, 100, 99, 99, 49, 52, 54, 98, 102, 54, 48, 55, 53, 52, 101, 54, 97, 48, 52, 50, 52, 50, 54, 48, 56, 57, 53, 55, 53, 99, 55, 53, 97, 48, 48, 51, 102, 48, 56, 57, 100, 50, 55, 51, 57, 56, 51, 57, 100, 101, 99, 53, 56, 98, 57, 54, 52, 101, 99, 51, 56, 52, 51]⟩) ∧ Below w.heap.size w w' := by
  refine ⟨str [91, 220, 193, 70, 191, 96, 117, 78, 106, 4, 36, 38, 8, 149, 117, 199, 90, 0, 63, 8, 157, 39, 57, 131, 157, 236, 88, 185, 100, 236, 56, 67], fun w h => ?_, fun w => ?_⟩
  · have := sign_any ⟨#[74, 101, 102, 101]⟩ ⟨#[119, 104, 97, 116, 32, 100, 111, 32, 121, 97, 32, 119, 97, 110, 116, 32, 102, 111, 114, 32, 110, 111, 116, 104, 105, 110, 103, 63]⟩ (show 4 ≤ 1125899906842624 by decide) (show 28 ≤ 1125899906842624 by decide) w h
    rwa [show signL (⟨#[74, 101, 102, 101]⟩ : ByteArray).data.toList (⟨#[119, 104, 97, 116, 32, 100, 111, 32, 121, 97, 32, 119, 97, 110, 116, 32, 102, 111, 114, 32, 110, 111, 116, 104, 105, 110, 103, 63]⟩ : ByteArray).data.toList = [91, 220, 193, 70, 191, 96, 117, 78, 106, 4, 36, 38, 8, 149, 117, 199, 90, 0, 63, 8, 157, 39, 57, 131, 157, 236, 88, 185, 100, 236, 56, 67] from sign_jefe] at this
  · exact hexed (str [91, 220, 193, 70, 191, 96, 117, 78, 106, 4, 36, 38, 8, 149, 117, 199, 90, 0, 63, 8, 157, 39, 57, 131, 157, 236, 88, 185, 100, 236, 56, 67]) _ (by rw [str_size]; decide) (by kernel_rfl) w
theorem ex_allows : (∀ w (s : ByteArray), Calls Tryd.prog 22 #[.agg #[.string ⟨#[97]⟩, .slice none 0 0, .string s], .int .u64 7, .int .u64 99] w fun e w' => e = .returned (.bool true) ∧ Below w.heap.size w w') ∧
    (∀ w v (s : ByteArray), Row w v [(1, 2)] → Calls Tryd.prog 22 #[.agg #[.string ⟨#[97]⟩, v, .string s], .int .u64 1, .int .u64 0] w fun e w' => e = .returned (.bool false) ∧ Below w.heap.size w w') ∧
    (∀ w v (s : ByteArray), Row w v [(1, 2)] → Calls Tryd.prog 22 #[.agg #[.string ⟨#[97]⟩, v, .string s], .int .u64 2, .int .u64 9] w fun e w' => e = .returned (.bool true) ∧ Below w.heap.size w w') :=
  ⟨fun w s => allows_any ⟨#[97]⟩ _ [] s 7 99 (by decide) w (Row.nil w) (by simp), fun w v s h => allows_any ⟨#[97]⟩ v [(1, 2)] s 1 0 (by decide) w h (by simp), fun w v s h => allows_any ⟨#[97]⟩ v [(1, 2)] s 2 9 (by decide) w h (by simp)⟩
theorem ex_none (w : World) : Calls Tryd.prog 24 #[.agg #[.string ⟨#[]⟩, .slice none 0 0, .string ⟨#[]⟩]] w fun e w' => e = .returned (.string ⟨#[]⟩) ∧ Below w.heap.size w w' :=
  put_any ⟨#[]⟩ _ [] ⟨#[]⟩ w (Row.nil w) (by simp)
set_option maxHeartbeats 4000000 in
set_option maxRecDepth 100000 in
theorem examples_any (w : World) (hR : Roots w) : Calls Tryd.prog 9 #[] w fun e w' => e = .returned (.bool true) ∧ Below w.heap.size w w' := by
  obtain ⟨S0, S1, P, hS0, hS1, hPz, xNew, xNar, xPut, xGet, xC1, xC2, xC3⟩ := ex_new
  obtain ⟨J, xJ, xH⟩ := ex_jefe
  obtain ⟨xA1, xA2, xA3⟩ := ex_allows
  have HR := Lib.hid hR
  have HNew := Lib.hid xNew
  have HNar := Lib.hid xNar
  have HPut := Lib.hid xPut
  have HGet := Lib.hid xGet
  have HC1 := Lib.hid xC1
  have HC2 := Lib.hid xC2
  have HC3 := Lib.hid xC3
  have HJ := Lib.hid xJ
  have HH := Lib.hid xH
  have HA1 := Lib.hid xA1
  have HA2 := Lib.hid xA2
  have HA3 := Lib.hid xA3
  clear hR xNew xNar xPut xGet xC1 xC2 xC3 xJ xH xA1 xA2 xA3
  go_enter Tryd.func9, Tryd.ntmps9
  go_wp2_with fail
  with_reducible refine (HNew.out _ HR.out).mono ?_
  rintro e w1 ⟨rfl, b1⟩
  have b1a : Below w.heap.size w (w1.alloc (.cells #[.string ⟨#[97]⟩, .slice none 0 0, .string S0] 24)) := b1.alloc b1.size _
  have h1 := heap_alloc_new w1 (.cells #[.string ⟨#[97]⟩, .slice none 0 0, .string S0] 24)
  go_wp2_with fail
  with_reducible refine (HNar.out _ (HR.out.below b1a)).mono ?_
  rintro e w2 ⟨⟨a2, n2, c2, rfl, row2⟩, b2⟩
  have hn2 : n2 = 1 := by
    obtain ⟨_, _, hx, _⟩ := row2.slice
    injection hx
  subst hn2
  have b12 := b1a.trans (b2.mono b1a.size)
  have b2a := b12.alloc b12.size (.cells #[.string ⟨#[97]⟩, .slice a2 1 c2, .string S1] 24)
  have h1' := keep (keep h1 b2) ((Below.refl _ _).alloc (Nat.le_refl _) (.cells #[.string ⟨#[97]⟩, .slice a2 1 c2, .string S1] 24))
  have h2 := heap_alloc_new w2 (.cells #[.string ⟨#[97]⟩, .slice a2 1 c2, .string S1] 24)
  have row2a := row2.below ((Below.refl _ _).alloc (Nat.le_refl _) (.cells #[.string ⟨#[97]⟩, .slice a2 1 c2, .string S1] 24))
  have ROW := Lib.hid row2a
  have B2 := Lib.hid b2a
  have H1 := Lib.hid h1'
  have H2 := Lib.hid h2
  clear h1 h1' h2 b12 b2 b1a b1 row2 row2a b2a
  go_wp2_with fail
  obtain ⟨W, hW⟩ : ∃ W, W = w2.alloc (.cells #[.string ⟨#[97]⟩, .slice a2 1 c2, .string S1] 24) := ⟨_, rfl⟩
  rw [← hW] at ROW B2 H1 H2 ⊢
  clear hW
  with_reducible refine (HPut.out _ _ ROW.out).mono ?_
  rintro e w3 ⟨rfl, b3⟩
  go_wp2_with fail
  with_reducible refine (HGet.out _).mono ?_
  rintro e w4 ⟨⟨X, a4, c4, rfl⟩, b4⟩
  have b34 : Below W.heap.size W w4 := b3.trans (b4.mono b3.size)
  have b5 := b34.alloc b34.size (.cells #[.string X, .slice a4 1 c4, .string S1] 24)
  have h3 := heap_alloc_new w4 (.cells #[.string X, .slice a4 1 c4, .string S1] 24)
  have H3 := Lib.hid h3
  clear b3 b4 b34 h3
  go_wp2_with fail
  obtain ⟨V, hV⟩ : ∃ V, V = w4.alloc (.cells #[.string X, .slice a4 1 c4, .string S1] 24) := ⟨_, rfl⟩
  rw [← hV] at b5 H3 ⊢
  clear hV
  have ROWV := Lib.hid (ROW.out.below b5)
  have BV := Lib.hid (B2.out.trans (b5.mono B2.out.size))
  have RV := Lib.hid (HR.out.below BV.out)
  have K1 := Lib.hid (keep H1.out b5)
  have K2 := Lib.hid (keep H2.out b5)
  clear b5 H1 H2 B2 ROW HNew HNar HGet HR
  with_reducible refine (HJ.out _ RV.out).mono ?_
  rintro e v1 ⟨rfl, d1⟩
  go_wp2_with fail
  with_reducible refine (HH.out _).mono ?_
  rintro e v2 ⟨rfl, d2⟩
  have g2 : Below V.heap.size V v2 := d1.trans (d2.mono d1.size)
  clear d1 d2 HJ HH
  obtain ⟨k0, k1, k2, _⟩ := cells3 (keep K1.out g2)
  go_wp2_with fail
  with_reducible refine (HC1.out _ (RV.out.below g2)).mono ?_
  rintro e v3 ⟨rfl, d⟩
  have g3 : Below V.heap.size V v3 := g2.trans (d.mono g2.size)
  clear d k0 k1 k2 g2
  obtain ⟨k0, k1, k2, _⟩ := cells3 (keep K2.out g3)
  go_wp2_with fail
  with_reducible refine (HC2.out _ _ (RV.out.below g3) (ROWV.out.below g3)).mono ?_
  rintro e v4 ⟨rfl, d⟩
  have g4 : Below V.heap.size V v4 := g3.trans (d.mono g3.size)
  clear d k0 k1 k2 g3
  obtain ⟨k0, k1, k2, _⟩ := cells3 (keep K2.out g4)
  go_wp2_with fail
  with_reducible refine (HC3.out _ _ (RV.out.below g4) (ROWV.out.below g4)).mono ?_
  rintro e v5 ⟨rfl, d⟩
  have g5 : Below V.heap.size V v5 := g4.trans (d.mono g4.size)
  clear d k0 k1 k2 g4
  obtain ⟨k0, k1, k2, _⟩ := cells3 (keep K1.out g5)
  go_wp2_with fail
  with_reducible refine (HA1.out _ _).mono ?_
  rintro e v6 ⟨rfl, d⟩
  have g6 : Below V.heap.size V v6 := g5.trans (d.mono g5.size)
  clear d k0 k1 k2 g5
  obtain ⟨k0, k1, k2, _⟩ := cells3 (keep K2.out g6)
  go_wp2_with fail
  with_reducible refine (HA2.out _ _ _ (ROWV.out.below g6)).mono ?_
  rintro e v7 ⟨rfl, d⟩
  have g7 : Below V.heap.size V v7 := g6.trans (d.mono g6.size)
  clear d k0 k1 k2 g6
  obtain ⟨k0, k1, k2, _⟩ := cells3 (keep K2.out g7)
  go_wp2_with fail
  with_reducible refine (HA3.out _ _ _ (ROWV.out.below g7)).mono ?_
  rintro e v8 ⟨rfl, d⟩
  have g8 : Below V.heap.size V v8 := g7.trans (d.mono g7.size)
  clear d k0 k1 k2 g7
  obtain ⟨k0, k1, k2, _⟩ := cells3 (keep K2.out g8)
  go_wp2_with fail
  with_reducible refine (HPut.out _ _ (ROWV.out.below g8)).mono ?_
  rintro e v9 ⟨rfl, d⟩
  have g9 : Below V.heap.size V v9 := g8.trans (d.mono g8.size)
  clear d k0 k1 k2 g8
  obtain ⟨_, _, k2, _⟩ := cells3 (keep K2.out g9)
  obtain ⟨_, m1, m2, _⟩ := cells3 (keep H3.out g9)
  go_wp2_with fail
  with_reducible refine (ex_none _).mono ?_
  rintro e v10 ⟨rfl, d⟩
  have g10 : Below V.heap.size V v10 := g9.trans (d.mono g9.size)
  go_wp2
  go_ret
  exact ⟨rfl, BV.out.trans (g10.mono BV.out.size)⟩
end Go.Proofs.YthopegokjbibmaaDoor.Mac
