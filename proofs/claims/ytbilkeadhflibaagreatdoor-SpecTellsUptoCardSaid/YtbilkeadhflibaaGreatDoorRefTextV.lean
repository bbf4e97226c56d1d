/- What the document's own Get and GetText answer, by the same plain functions as the program's. -/
import Derived.Test.YtbilkeadhflibaaGreatDoorRefGet
import Derived.Test.YtbilkeadhflibaaGreatDoorRefPut
namespace Go.Proofs.YtbilkeadhflibaaGreatDoor.Wire
open Go.RowKit

theorem refGet_yes (s : ByteArray) (hs : s.size ≤ 9223372036854775797) (p : Int) (u n : Nat) (h : getV s.data.toList p = some (u, n)) (w : World) :
    Calls Tryz.prog 36 #[.string s, .int .i64 p] w fun e w' => e = .returned (.tuple #[.int .u64 u, .int .i64 n, .bool true]) ∧ w = w' := by
  have := refGet_any s hs p w
  rw [h] at this
  exact this
theorem refGet_no (s : ByteArray) (hs : s.size ≤ 9223372036854775797) (p : Int) (h : getV s.data.toList p = none) (w : World) :
    Calls Tryz.prog 36 #[.string s, .int .i64 p] w fun e w' => e = .returned (.tuple #[.int .u64 0, .int .i64 0, .bool false]) ∧ w = w' := by
  have := refGet_any s hs p w
  rw [h] at this
  exact this

set_option maxRecDepth 100000 in
set_option maxHeartbeats 1000000 in
theorem refText_yes (s : ByteArray) (hs : s.size ≤ 9223372036854775797) (p most : Int) (hmost : most ≤ 9223372036854775807) (a n : Nat) (h : textV s.data.toList p most = some (a, n)) (w : World) :
    Calls Tryz.prog 34 #[.string s, .int .i64 p, .int .i64 most] w fun e w' => e = .returned (.tuple #[.string (s.extract a n), .int .i64 n, .bool true]) ∧ w = w' := by
  unfold textV at h
  split at h
  · simp at h
  rename_i x hg
  split at h
  · simp at h
  rename_i hc
  simp only [Option.some.injEq, Prod.mk.injEq] at h
  obtain ⟨u, from'⟩ := x
  simp only at h hc
  have hlt := getV_lt hg
  rw [size_list] at hc hlt
  have HG := Lib.hid (refGet_yes s hs p u from' hg)
  have h1 : 0 ≤ most := by omega
  have h2 : (u : Int) ≤ most := by omega
  have h3 : (u : Int) ≤ (s.size : Int) - (from' : Int) := by omega
  have h4 : from' ≤ s.size := by omega
  obtain ⟨rfl, rfl⟩ := h
  clear hg hc hlt
  go_enter Tryz.func34, Tryz.ntmps34
  go_wp2_with (go_at_call 36; refine (HG.out _).mono ?_; rintro e w1 ⟨rfl, rfl⟩)
  go_ret3
  exact ⟨by go_num, rfl⟩

set_option maxRecDepth 100000 in
set_option maxHeartbeats 1000000 in
theorem refText_no (s : ByteArray) (hs : s.size ≤ 9223372036854775797) (p most : Int) (hmost : most ≤ 9223372036854775807) (h : textV s.data.toList p most = none) (w : World) :
    Calls Tryz.prog 34 #[.string s, .int .i64 p, .int .i64 most] w fun e w' => e = .returned (.tuple #[.string ⟨#[]⟩, .int .i64 0, .bool false]) ∧ w = w' := by
  unfold textV at h
  split at h
  · rename_i hg
    have HG := Lib.hid (refGet_no s hs p hg)
    clear hg h
    go_enter Tryz.func34, Tryz.ntmps34
    go_wp2_with (go_at_call 36; refine (HG.out _).mono ?_; rintro e w1 ⟨rfl, rfl⟩)
    go_ret3
    exact ⟨rfl, rfl⟩
  · rename_i x hg
    obtain ⟨u, from'⟩ := x
    simp only [ite_eq_left_iff, reduceCtorEq, imp_false, Decidable.not_not] at h
    have hlt := getV_lt hg
    rw [size_list] at h hlt
    have HG := Lib.hid (refGet_yes s hs p u from' hg)
    have h4 : from' ≤ s.size := by omega
    have hu : (u : Int) ≤ 18446744073709551615 := by omega
    clear hg hlt
    by_cases h1 : most < 0
    · clear h
      go_enter Tryz.func34, Tryz.ntmps34
      go_wp2_with (go_at_call 36; refine (HG.out _).mono ?_; rintro e w1 ⟨rfl, rfl⟩)
      go_ret3
      exact ⟨rfl, rfl⟩
    · by_cases h2 : most < (u : Int)
      · clear h
        go_enter Tryz.func34, Tryz.ntmps34
        go_wp2_with (go_at_call 36; refine (HG.out _).mono ?_; rintro e w1 ⟨rfl, rfl⟩)
        go_ret3
        exact ⟨rfl, rfl⟩
      · have h3 : (s.size : Int) - (from' : Int) < (u : Int) := by omega
        clear h
        go_enter Tryz.func34, Tryz.ntmps34
        go_wp2_with (go_at_call 36; refine (HG.out _).mono ?_; rintro e w1 ⟨rfl, rfl⟩)
        go_ret3
        exact ⟨rfl, rfl⟩

end Go.Proofs.YtbilkeadhflibaaGreatDoor.Wire
