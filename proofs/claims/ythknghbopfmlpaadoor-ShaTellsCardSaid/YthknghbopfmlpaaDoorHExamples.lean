/- The chapter's examples, as demesnelaw06.examples asks them: they are so; of memory that was there nothing turns. -/
import Derived.Test.YthknghbopfmlpaaDoorHSum
import Derived.Test.YthknghbopfmlpaaDoorHParse
import Derived.Test.YthknghbopfmlpaaDoorHKnown
namespace Go.Proofs.YthknghbopfmlpaaDoor.Sha
open Go.RowKit

theorem grows {a b c : World} (h : Below a.heap.size a b) (k : Below b.heap.size b c) : Below a.heap.size a c := h.trans (k.mono h.size)
theorem parse_yes (s : ByteArray) (hs : s.size ≤ 281474976710656) (x : List UInt8) (h : hexL x = s.data.toList) (w : World) :
    Calls Tryd.prog 9 #[.string s] w fun e w' => e = .returned (.tuple #[.string (str x), .bool true]) ∧ Below w.heap.size w w' := by
  refine (parse_any s hs w).mono ?_
  rintro e w' ⟨⟨y, hy, rfl⟩ | ⟨hno, _⟩, hb⟩
  · rw [hexL_inj x y (h.trans hy.symm)]
    exact ⟨rfl, hb⟩
  · exact absurd h (hno x)
theorem parse_no (s : ByteArray) (hs : s.size ≤ 281474976710656) (h : ∀ x, hexL x ≠ s.data.toList) (w : World) :
    Calls Tryd.prog 9 #[.string s] w fun e w' => e = .returned (.tuple #[.string ⟨#[]⟩, .bool false]) ∧ Below w.heap.size w w' := by
  refine (parse_any s hs w).mono ?_
  rintro e w' ⟨⟨y, hy, rfl⟩ | ⟨_, rfl⟩, hb⟩
  · exact absurd hy (h y)
  · exact ⟨rfl, hb⟩
theorem none_dig (c : UInt8) (h : ((List.range 16).all fun m => dig m != c) = true) : ∀ m, m < 16 → dig m ≠ c := fun m hm => by simpa using List.all_eq_true.1 h m (List.mem_range.2 hm)
theorem ex1 (w : World) : Calls Tryd.prog 9 #[.string ⟨#[54, 49, 54, 50, 102, 102]⟩] w fun e w' => e = .returned (.tuple #[.string ⟨#[97, 98, 255]⟩, .bool true]) ∧ Below w.heap.size w w' :=
  parse_yes ⟨#[54, 49, 54, 50, 102, 102]⟩ (show 6 ≤ 281474976710656 by decide) [97, 98, 255] (by kernel_rfl) w
theorem ex2 (w : World) : Calls Tryd.prog 9 #[.string ⟨#[54, 65]⟩] w fun e w' => e = .returned (.tuple #[.string ⟨#[]⟩, .bool false]) ∧ Below w.heap.size w w' :=
  parse_no ⟨#[54, 65]⟩ (show 2 ≤ 281474976710656 by decide) (no_low (k := 0) (c := 65) rfl (none_dig 65 (by decide +kernel))) w
theorem ex3 (w : World) : Calls Tryd.prog 9 #[.string ⟨#[54, 49, 54]⟩] w fun e w' => e = .returned (.tuple #[.string ⟨#[]⟩, .bool false]) ∧ Below w.heap.size w w' :=
  parse_no ⟨#[54, 49, 54]⟩ (show 3 ≤ 281474976710656 by decide) (no_odd rfl) w
theorem hexed (s t : ByteArray) (hs : s.size ≤ 140737488355328) (h : hexL s.data.toList = t.data.toList) (w : World) : Calls Tryd.prog 13 #[.string s] w fun e w' => e = .returned (.string t) ∧ Below w.heap.size w w' := by
  have := hex_any s hs w
  rwa [h, str_of] at this
theorem ex4 (w : World) : Calls Tryd.prog 13 #[.string ⟨#[97, 98, 255]⟩] w fun e w' => e = .returned (.string ⟨#[54, 49, 54, 50, 102, 102]⟩) ∧ Below w.heap.size w w' :=
  hexed ⟨#[97, 98, 255]⟩ ⟨#[54, 49, 54, 50, 102, 102]⟩ (show 3 ≤ 140737488355328 by decide) (by kernel_rfl) w
/-- A text whose sum is known, and that sum's digits. -/
theorem known (s h : ByteArray) (r : List UInt8) (hs : s.size ≤ 1152921504606846976) (hr : sumL s.data.toList = r) (hh : hexL r = h.data.toList) :
    ∃ A : ByteArray, (∀ w, Roots w → Calls Tryd.prog 11 #[.string s] w fun e w' => e = .returned (.string A) ∧ Below w.heap.size w w') ∧ ∀ w, Calls Tryd.prog 13 #[.string A] w fun e w' => e = .returned (.string h) ∧ Below w.heap.size w w' := by
  have hl : r.length = 32 := by rw [← hr]; exact sumL_len _
  refine ⟨str r, fun w hR => ?_, fun w => ?_⟩
  · have := sum_any s hs w hR
    rwa [hr] at this
  · exact hexed _ _ (by rw [str_size]; omega) (by rw [str_toList]; exact hh) w
set_option maxHeartbeats 2000000 in
set_option maxRecDepth 100000 in
theorem examples_any (w : World) (hR : Roots w) : Calls Tryd.prog 8 #[] w fun e w' => e = .returned (.bool true) ∧ Below w.heap.size w w' := by
  obtain ⟨A, hA, hHA⟩ := known ⟨#[]⟩ ⟨#[101, 51, 98, 48, 99, 52, 52, 50, 57, 56, 102, 99, 49, 99, 49, 52, 57, 97, 102, 98, 102, 52, 99, 56, 57, 57, 54, 102, 98, 57, 50, 52, 50, 55, 97, 101, 52, 49, 101, 52, 54, 52, 57, 98, 57, 51, 52, 99, 97, 52, 57, 53, 57, 57, 49, 98, 55, 56, 53, 50, 98, 56, 53, 53]⟩ _ (show 0 ≤ 1152921504606846976 by decide) sum_none (by kernel_rfl)
  obtain ⟨B, hB, hHB⟩ := known ⟨#[97, 98, 99]⟩ ⟨#[98, 97, 55, 56, 49, 54, 98, 102, 56, 102, 48, 49, 99, 102, 101, 97, 52, 49, 52, 49, 52, 48, 100, 101, 53, 100, 97, 101, 50, 50, 50, 51, 98, 48, 48, 51, 54, 49, 97, 51, 57, 54, 49, 55, 55, 97, 57, 99, 98, 52, 49, 48, 102, 102, 54, 49, 102, 50, 48, 48, 49, 53, 97, 100]⟩ _ (show 3 ≤ 1152921504606846976 by decide) sum_abc (by kernel_rfl)
  have HR := Lib.hid hR
  have HA := Lib.hid hA
  have HHA := Lib.hid hHA
  have HB := Lib.hid hB
  have HHB := Lib.hid hHB
  clear hA hHA hB hHB hR
  go_enter Tryd.func8, Tryd.ntmps8
  go_wp2_with fail
  with_reducible refine (ex1 _).mono ?_
  rintro e w1 ⟨rfl, b1⟩
  go_wp2_with fail
  with_reducible refine (ex2 _).mono ?_
  rintro e w2 ⟨rfl, b2⟩
  go_wp2_with fail
  with_reducible refine (ex3 _).mono ?_
  rintro e w3 ⟨rfl, b3⟩
  go_wp2_with fail
  with_reducible refine (ex4 _).mono ?_
  rintro e w4 ⟨rfl, b4⟩
  have hb4 := grows (grows (grows b1 b2) b3) b4
  clear b1 b2 b3 b4
  go_wp2_with fail
  with_reducible refine (HA.out _ (HR.out.below hb4)).mono ?_
  rintro e w5 ⟨rfl, b5⟩
  go_wp2_with fail
  with_reducible refine (HHA.out _).mono ?_
  rintro e w6 ⟨rfl, b6⟩
  have hb6 := grows (grows hb4 b5) b6
  clear b5 b6
  go_wp2_with fail
  with_reducible refine (HB.out _ (HR.out.below hb6)).mono ?_
  rintro e w7 ⟨rfl, b7⟩
  go_wp2_with fail
  with_reducible refine (HHB.out _).mono ?_
  rintro e w8 ⟨rfl, b8⟩
  go_wp2
  go_ret
  exact ⟨rfl, grows (grows hb6 b7) b8⟩
end Go.Proofs.YthknghbopfmlpaaDoor.Sha
