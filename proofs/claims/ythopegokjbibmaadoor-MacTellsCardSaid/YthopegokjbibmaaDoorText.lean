/- What wire.PutText and wire.GetText answer, for every text, place and limit, by one plain function each; of memory that was there nothing turns. -/
import Derived.Test.YthopegokjbibmaaDoorGetV
namespace Go.Proofs.YthopegokjbibmaaDoor.Wire
open Go.RowKit

/-- The text of at most so many bytes whose form stands in l at p: where its bytes begin, and where they end. -/
def textV (l : List UInt8) (p most : Int) : Option (Nat × Nat) :=
  match getV l p with
  | none => none
  | some x => if most < 0 ∨ most < (x.1 : Int) ∨ l.length < x.2 + x.1 then none else some (x.2, x.2 + x.1)

set_option maxRecDepth 100000 in
set_option maxHeartbeats 1000000 in
theorem text_yes (s : ByteArray) (hs : s.size ≤ 9223372036854775807) (p most : Int) (hmost : most ≤ 9223372036854775807) (a n : Nat) (h : textV s.data.toList p most = some (a, n)) (w : World) :
    Calls Tryd.prog 29 #[.string s, .int .i64 p, .int .i64 most] w fun e w' => e = .returned (.tuple #[.string (s.extract a n), .int .i64 n, .bool true]) ∧ Below w.heap.size w w' := by
  unfold textV at h
  split at h
  · simp at h
  rename_i x hg
  split at h
  · simp at h
  rename_i hc
  simp only [Option.some.injEq, Prod.mk.injEq] at h
  obtain ⟨u, from'⟩ := x
  simp only at h hc
  have hlt := getV_lt hg
  rw [size_list] at hc hlt
  have HG := Lib.hid (get_yes s hs p u from' hg)
  have h1 : 0 ≤ most := by omega
  have h2 : (u : Int) ≤ most := by omega
  have h3 : (u : Int) ≤ (s.size : Int) - (from' : Int) := by omega
  have h4 : from' ≤ s.size := by omega
  obtain ⟨rfl, rfl⟩ := h
  clear hg hc hlt
  go_enter Tryd.func29, Tryd.ntmps29
  go_wp2_with (go_at_call 49; refine (HG.out _).mono ?_; rintro e w1 ⟨rfl, hb⟩)
  go_ret3
  exact ⟨by go_num, hb⟩

set_option maxRecDepth 100000 in
set_option maxHeartbeats 1000000 in
theorem text_no (s : ByteArray) (hs : s.size ≤ 9223372036854775807) (p most : Int) (hmost : most ≤ 9223372036854775807) (h : textV s.data.toList p most = none) (w : World) :
    Calls Tryd.prog 29 #[.string s, .int .i64 p, .int .i64 most] w fun e w' => e = .returned (.tuple #[.string ⟨#[]⟩, .int .i64 0, .bool false]) ∧ Below w.heap.size w w' := by
  unfold textV at h
  split at h
  · rename_i hg
    have HG := Lib.hid (get_no s hs p hg)
    clear hg h
    go_enter Tryd.func29, Tryd.ntmps29
    go_wp2_with (go_at_call 49; refine (HG.out _).mono ?_; rintro e w1 ⟨rfl, hb⟩)
    go_ret3
    exact ⟨rfl, hb⟩
  · rename_i x hg
    obtain ⟨u, from'⟩ := x
    simp only [ite_eq_left_iff, reduceCtorEq, imp_false, Decidable.not_not] at h
    have hlt := getV_lt hg
    rw [size_list] at h hlt
    have HG := Lib.hid (get_yes s hs p u from' hg)
    have h4 : from' ≤ s.size := by omega
    have hu : (u : Int) ≤ 18446744073709551615 := by omega
    clear hg hlt
    by_cases h1 : most < 0
    · clear h
      go_enter Tryd.func29, Tryd.ntmps29
      go_wp2_with (go_at_call 49; refine (HG.out _).mono ?_; rintro e w1 ⟨rfl, hb⟩)
      go_ret3
      exact ⟨rfl, hb⟩
    · by_cases h2 : most < (u : Int)
      · clear h
        go_enter Tryd.func29, Tryd.ntmps29
        go_wp2_with (go_at_call 49; refine (HG.out _).mono ?_; rintro e w1 ⟨rfl, hb⟩)
        go_ret3
        exact ⟨rfl, hb⟩
      · have h3 : (s.size : Int) - (from' : Int) < (u : Int) := by omega
        clear h
        go_enter Tryd.func29, Tryd.ntmps29
        go_wp2_with (go_at_call 49; refine (HG.out _).mono ?_; rintro e w1 ⟨rfl, hb⟩)
        go_ret3
        exact ⟨rfl, hb⟩

set_option maxRecDepth 100000 in
set_option maxHeartbeats 1000000 in
theorem putText_any (t : ByteArray) (ht : t.size ≤ 4611686018427387904) (w : World) :
    Calls Tryd.prog 42 #[.string t] w fun e w' => e = .returned (.string (str (putL t.size) ++ t)) ∧ Below w.heap.size w w' := by
  have hten := putL_ten (u := t.size) (by omega)
  have hsz := str_size (putL t.size)
  have HP := Lib.hid (put_any t.size (by omega))
  obtain ⟨q, hq⟩ : ∃ q, q = str (putL t.size) := ⟨_, rfl⟩
  rw [← hq] at HP hsz ⊢
  have hq' : q.size ≤ 10 := by omega
  clear hsz hten hq
  go_enter Tryd.func42, Tryd.ntmps42
  go_wp2_with (go_at_call 43; refine (HP.out _).mono ?_; rintro e w1 ⟨rfl, hb⟩)
  go_ret
  exact ⟨rfl, hb⟩
end Go.Proofs.YthopegokjbibmaaDoor.Wire
