/- What wire.Get, wire.PutText and wire.GetText answer, for every text, place and limit, by one plain function each; of memory that was there nothing turns. -/
import Derived.Test.YtloigbnfdldfcaaGet
import Derived.Lib.Strings
namespace Go.Proofs.Ytloigbnfdldfcaa.Wire
open Go.RowKit

/-- The number whose form stands in l at p, and the place behind it. -/
def getV (l : List UInt8) (p : Int) : Option (Nat × Nat) :=
  if p < 0 then none else
    match takeL 10 (l.drop p.toNat) with
    | none => none
    | some x => if putL (x.1 % 18446744073709551616) = (l.drop p.toNat).take x.2 then some (x.1 % 18446744073709551616, p.toNat + x.2) else none

theorem getV_lt {l : List UInt8} {p : Int} {u n : Nat} (h : getV l p = some (u, n)) : u < 18446744073709551616 ∧ p.toNat < n ∧ n ≤ l.length ∧ 0 ≤ p ∧ n = p.toNat + (putL u).length ∧ Stands u (l.drop p.toNat) := by
  unfold getV at h
  split at h
  · simp at h
  rename_i hp
  split at h
  · simp at h
  rename_i x ht
  split at h
  · rename_i he
    simp only [Option.some.injEq, Prod.mk.injEq] at h
    obtain ⟨rfl, rfl⟩ := h
    have hl := takeL_len _ _ _ _ ht
    have hu : x.1 % 18446744073709551616 < 18446744073709551616 := Nat.mod_lt _ (by decide)
    have hlen := congrArg List.length he
    rw [List.length_take] at hlen
    rw [List.length_drop] at hl hlen
    exact ⟨hu, by omega, by omega, by omega, by omega, stands_of hu he⟩
  · simp at h
theorem getV_of {l : List UInt8} {p u : Nat} (h : Stands u (l.drop p)) : getV l p = some (u, p + (putL u).length) := by
  unfold getV
  rw [if_neg (by omega), Int.toNat_natCast, h.takes]
  simp only
  rw [Nat.mod_eq_of_lt h.1, if_pos h.take.symm]
theorem getV_out {l : List UInt8} {p : Int} (h : p < 0 ∨ (l.length : Int) ≤ p) : getV l p = none := by
  unfold getV
  split
  · rfl
  · rw [List.drop_eq_nil_of_le (by omega)]
    rfl

theorem size_list (s : ByteArray) : s.data.toList.length = s.size := Array.length_toList
theorem ext_list (s : ByteArray) (p k : Nat) : (s.extract p (p + k)).toList = (s.data.toList.drop p).take k := by
  rw [Lib.toList_data, Lib.extract_data, Nat.add_sub_cancel_left]
theorem str_list (l : List UInt8) : (str l).toList = l := by rw [Lib.toList_data]; exact str_toList l

theorem get_yes (s : ByteArray) (hs : s.size ≤ 9223372036854775807) (p : Int) (u n : Nat) (h : getV s.data.toList p = some (u, n)) (w : World) :
    Calls Try.prog 10 #[.string s, .int .i64 p] w fun e w' => e = .returned (.tuple #[.int .u64 u, .int .i64 n, .bool true]) ∧ Below w.heap.size w w' := by
  have hb := getV_lt h
  obtain ⟨q, rfl⟩ := Int.eq_ofNat_of_zero_le hb.2.2.2.1
  simp only [Int.toNat_natCast] at hb
  have hst := hb.2.2.2.2.2
  refine get_good s q hs u n hb.1 hb.2.1 (by have := hb.2.2.1; rw [size_list] at this; exact this) u (putL u).length (Nat.mod_eq_of_lt hb.1).symm hb.2.2.2.2.1 hst.takes ?_ w
  rw [hb.2.2.2.2.1, ext_list, hst.take, str_list]
theorem get_no (s : ByteArray) (hs : s.size ≤ 9223372036854775807) (p : Int) (h : getV s.data.toList p = none) (w : World) :
    Calls Try.prog 10 #[.string s, .int .i64 p] w fun e w' => e = .returned (.tuple #[.int .u64 0, .int .i64 0, .bool false]) ∧ Below w.heap.size w w' := by
  by_cases hp : p < 0 ∨ (s.size : Int) ≤ p
  · exact get_out s p hp w
  · obtain ⟨q, rfl⟩ := Int.eq_ofNat_of_zero_le (show 0 ≤ p by omega)
    unfold getV at h
    rw [if_neg (by omega), Int.toNat_natCast] at h
    split at h
    · rename_i ht
      exact get_none s q (by omega) hs ht w
    · rename_i x ht
      split at h
      · simp at h
      · rename_i he
        have hl := takeL_len _ _ _ _ ht
        rw [List.length_drop, size_list] at hl
        refine get_bad s q hs (x.1 % 18446744073709551616) (q + x.2) (Nat.mod_lt _ (by decide)) (by omega) (by omega) x.1 x.2 rfl rfl ht ?_ w
        rw [ext_list, str_list]
        simpa using he

/-- The text of at most so many bytes whose form stands in l at p: where its bytes begin, and where they end. -/
def textV (l : List UInt8) (p most : Int) : Option (Nat × Nat) :=
  match getV l p with
  | none => none
  | some x => if most < 0 ∨ most < (x.1 : Int) ∨ l.length < x.2 + x.1 then none else some (x.2, x.2 + x.1)

set_option maxRecDepth 100000 in
set_option maxHeartbeats 1000000 in
theorem text_yes (s : ByteArray) (hs : s.size ≤ 9223372036854775807) (p most : Int) (hmost : most ≤ 9223372036854775807) (a n : Nat) (h : textV s.data.toList p most = some (a, n)) (w : World) :
    Calls Try.prog 12 #[.string s, .int .i64 p, .int .i64 most] w fun e w' => e = .returned (.tuple #[.string (s.extract a n), .int .i64 n, .bool true]) ∧ Below w.heap.size w w' := by
  unfold textV at h
  split at h
  · simp at h
  rename_i x hg
  split at h
  · simp at h
  rename_i hc
  simp only [Option.some.injEq, Prod.mk.injEq] at h
  obtain ⟨u, from'⟩ := x
  simp only at h hc
  have hlt := getV_lt hg
  rw [size_list] at hc hlt
  have HG := Lib.hid (get_yes s hs p u from' hg)
  have h1 : 0 ≤ most := by omega
  have h2 : (u : Int) ≤ most := by omega
  have h3 : (u : Int) ≤ (s.size : Int) - (from' : Int) := by omega
  have h4 : from' ≤ s.size := by omega
  obtain ⟨rfl, rfl⟩ := h
  clear hg hc hlt
  go_enter Try.func12, Try.ntmps12
  go_wp2_with (go_at_call 10; refine (HG.out _).mono ?_; rintro e w1 ⟨rfl, hb⟩)
  go_ret3
  exact ⟨by go_num, hb⟩

set_option maxRecDepth 100000 in
set_option maxHeartbeats 1000000 in
theorem text_no (s : ByteArray) (hs : s.size ≤ 9223372036854775807) (p most : Int) (hmost : most ≤ 9223372036854775807) (h : textV s.data.toList p most = none) (w : World) :
    Calls Try.prog 12 #[.string s, .int .i64 p, .int .i64 most] w fun e w' => e = .returned (.tuple #[.string ⟨#[]⟩, .int .i64 0, .bool false]) ∧ Below w.heap.size w w' := by
  unfold textV at h
  split at h
  · rename_i hg
    have HG := Lib.hid (get_no s hs p hg)
    clear hg h
    go_enter Try.func12, Try.ntmps12
    go_wp2_with (go_at_call 10; refine (HG.out _).mono ?_; rintro e w1 ⟨rfl, hb⟩)
    go_ret3
    exact ⟨rfl, hb⟩
  · rename_i x hg
    obtain ⟨u, from'⟩ := x
    simp only [ite_eq_left_iff, reduceCtorEq, imp_false, Decidable.not_not] at h
    have hlt := getV_lt hg
    rw [size_list] at h hlt
    have HG := Lib.hid (get_yes s hs p u from' hg)
    have h4 : from' ≤ s.size := by omega
    have hu : (u : Int) ≤ 18446744073709551615 := by omega
    clear hg hlt
    by_cases h1 : most < 0
    · clear h
      go_enter Try.func12, Try.ntmps12
      go_wp2_with (go_at_call 10; refine (HG.out _).mono ?_; rintro e w1 ⟨rfl, hb⟩)
      go_ret3
      exact ⟨rfl, hb⟩
    · by_cases h2 : most < (u : Int)
      · clear h
        go_enter Try.func12, Try.ntmps12
        go_wp2_with (go_at_call 10; refine (HG.out _).mono ?_; rintro e w1 ⟨rfl, hb⟩)
        go_ret3
        exact ⟨rfl, hb⟩
      · have h3 : (s.size : Int) - (from' : Int) < (u : Int) := by omega
        clear h
        go_enter Try.func12, Try.ntmps12
        go_wp2_with (go_at_call 10; refine (HG.out _).mono ?_; rintro e w1 ⟨rfl, hb⟩)
        go_ret3
        exact ⟨rfl, hb⟩

set_option maxRecDepth 100000 in
set_option maxHeartbeats 1000000 in
theorem putText_any (t : ByteArray) (ht : t.size ≤ 4611686018427387904) (w : World) :
    Calls Try.prog 16 #[.string t] w fun e w' => e = .returned (.string (str (putL t.size) ++ t)) ∧ Below w.heap.size w w' := by
  have hten := putL_ten (u := t.size) (by omega)
  have hsz := str_size (putL t.size)
  have HP := Lib.hid (put_any t.size (by omega))
  obtain ⟨q, hq⟩ : ∃ q, q = str (putL t.size) := ⟨_, rfl⟩
  rw [← hq] at HP hsz ⊢
  have hq' : q.size ≤ 10 := by omega
  clear hsz hten hq
  go_enter Try.func16, Try.ntmps16
  go_wp2_with (go_at_call 14; refine (HP.out _).mono ?_; rintro e w1 ⟨rfl, hb⟩)
  go_ret
  exact ⟨rfl, hb⟩
end Go.Proofs.Ytloigbnfdldfcaa.Wire
