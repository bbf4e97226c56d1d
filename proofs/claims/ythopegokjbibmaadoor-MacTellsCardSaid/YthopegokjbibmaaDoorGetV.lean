/- What wire.Get answers, for every text and place, by one plain function; of memory that was there nothing turns. -/
import Derived.Test.YthopegokjbibmaaDoorGet
import Derived.Lib.Strings
namespace Go.Proofs.YthopegokjbibmaaDoor.Wire
open Go.RowKit

/-- The number whose form stands in l at p, and the place behind it. -/
def getV (l : List UInt8) (p : Int) : Option (Nat × Nat) :=
  if p < 0 then none else
    match takeL 10 (l.drop p.toNat) with
    | none => none
    | some x => if putL (x.1 % 18446744073709551616) = (l.drop p.toNat).take x.2 then some (x.1 % 18446744073709551616, p.toNat + x.2) else none

theorem getV_lt {l : List UInt8} {p : Int} {u n : Nat} (h : getV l p = some (u, n)) : u < 18446744073709551616 ∧ p.toNat < n ∧ n ≤ l.length ∧ 0 ≤ p ∧ n = p.toNat + (putL u).length ∧ Stands u (l.drop p.toNat) := by
  unfold getV at h
  split at h
  · simp at h
  rename_i hp
  split at h
  · simp at h
  rename_i x ht
  split at h
  · rename_i he
    simp only [Option.some.injEq, Prod.mk.injEq] at h
    obtain ⟨rfl, rfl⟩ := h
    have hl := takeL_len _ _ _ _ ht
    have hu : x.1 % 18446744073709551616 < 18446744073709551616 := Nat.mod_lt _ (by decide)
    have hlen := congrArg List.length he
    rw [List.length_take] at hlen
    rw [List.length_drop] at hl hlen
    exact ⟨hu, by omega, by omega, by omega, by omega, stands_of hu he⟩
  · simp at h
theorem getV_of {l : List UInt8} {p u : Nat} (h : Stands u (l.drop p)) : getV l p = some (u, p + (putL u).length) := by
  unfold getV
  rw [if_neg (by omega), Int.toNat_natCast, h.takes]
  simp only
  rw [Nat.mod_eq_of_lt h.1, if_pos h.take.symm]
theorem getV_out {l : List UInt8} {p : Int} (h : p < 0 ∨ (l.length : Int) ≤ p) : getV l p = none := by
  unfold getV
  split
  · rfl
  · rw [List.drop_eq_nil_of_le (by omega)]
    rfl

theorem size_list (s : ByteArray) : s.data.toList.length = s.size := Array.length_toList
theorem ext_list (s : ByteArray) (p k : Nat) : (s.extract p (p + k)).toList = (s.data.toList.drop p).take k := by
  rw [Lib.toList_data, Lib.extract_data, Nat.add_sub_cancel_left]
theorem str_list (l : List UInt8) : (str l).toList = l := by rw [Lib.toList_data]; exact str_toList l

theorem get_yes (s : ByteArray) (hs : s.size ≤ 9223372036854775807) (p : Int) (u n : Nat) (h : getV s.data.toList p = some (u, n)) (w : World) :
    Calls Tryd.prog 49 #[.string s, .int .i64 p] w fun e w' => e = .returned (.tuple #[.int .u64 u, .int .i64 n, .bool true]) ∧ Below w.heap.size w w' := by
  have hb := getV_lt h
  obtain ⟨q, rfl⟩ := Int.eq_ofNat_of_zero_le hb.2.2.2.1
  simp only [Int.toNat_natCast] at hb
  have hst := hb.2.2.2.2.2
  refine get_good s q hs u n hb.1 hb.2.1 (by have := hb.2.2.1; rw [size_list] at this; exact this) u (putL u).length (Nat.mod_eq_of_lt hb.1).symm hb.2.2.2.2.1 hst.takes ?_ w
  rw [hb.2.2.2.2.1, ext_list, hst.take, str_list]
theorem get_no (s : ByteArray) (hs : s.size ≤ 9223372036854775807) (p : Int) (h : getV s.data.toList p = none) (w : World) :
    Calls Tryd.prog 49 #[.string s, .int .i64 p] w fun e w' => e = .returned (.tuple #[.int .u64 0, .int .i64 0, .bool false]) ∧ Below w.heap.size w w' := by
  by_cases hp : p < 0 ∨ (s.size : Int) ≤ p
  · exact get_out s p hp w
  · obtain ⟨q, rfl⟩ := Int.eq_ofNat_of_zero_le (show 0 ≤ p by omega)
    unfold getV at h
    rw [if_neg (by omega), Int.toNat_natCast] at h
    split at h
    · rename_i ht
      exact get_none s q (by omega) hs ht w
    · rename_i x ht
      split at h
      · simp at h
      · rename_i he
        have hl := takeL_len _ _ _ _ ht
        rw [List.length_drop, size_list] at hl
        refine get_bad s q hs (x.1 % 18446744073709551616) (q + x.2) (Nat.mod_lt _ (by decide)) (by omega) (by omega) x.1 x.2 rfl rfl ht ?_ w
        rw [ext_list, str_list]
        simpa using he
end Go.Proofs.YthopegokjbibmaaDoor.Wire
