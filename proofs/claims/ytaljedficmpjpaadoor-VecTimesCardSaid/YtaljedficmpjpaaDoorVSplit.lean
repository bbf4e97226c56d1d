/- What strings.SplitN answers at a colon and five pieces, for every text: the pieces up to the fourth colon, in a new row; of memory that was there nothing turns. -/
import Derived.Test.YtaljedficmpjpaaDoorProg
import Derived.Test.YtaljedficmpjpaaDoorGetV
import Derived.WalkKit
import Derived.WalkSpells
import Derived.WalkLawsBesides
import Derived.Deep.OwnRows
import Derived.Deep.LoopGhost
import Derived.Laws.Strings3
import Derived.Lib.Hide
import Derived.Lib.Walk
import Derived.Lib.Split
namespace Go.Proofs.YtaljedficmpjpaaDoor.Vec
open Go.RowKit Go.Proofs.YtaljedficmpjpaaDoor.Wire

theorem str_data (s : ByteArray) : str s.data.toList = s := by cases s; rfl
/-- The pieces up to the k-th colon, and what is left. -/
def cutK : Nat → List UInt8 → List (List UInt8)
  | 0, l => [l]
  | k + 1, l => if Lib.indexByte l 58 = -1 then [l] else l.take (Lib.indexByte l 58).toNat :: cutK k (l.drop ((Lib.indexByte l 58).toNat + 1))

theorem index_cases (l : List UInt8) : (Lib.indexByte l 58 = -1 ∧ (58 : UInt8) ∉ l) ∨ ∃ i : Nat, Lib.indexByte l 58 = i ∧ i < l.length ∧ l = l.take i ++ 58 :: l.drop (i + 1) ∧ (58 : UInt8) ∉ l.take i := by
  have hge := Lib.indexByte_ge l 58
  by_cases h : Lib.indexByte l 58 = -1
  · left
    refine ⟨h, fun hm => ?_⟩
    obtain ⟨k, hk⟩ := List.mem_iff_getElem?.1 hm
    exact Lib.indexByte_none h k hk
  · right
    obtain ⟨i, hi⟩ := Int.eq_ofNat_of_zero_le (show 0 ≤ Lib.indexByte l 58 by omega)
    obtain ⟨h1, h2⟩ := Lib.indexByte_some hi
    obtain ⟨hlt, hv⟩ := List.getElem?_eq_some_iff.1 h1
    refine ⟨i, hi, hlt, ?_, fun hm => ?_⟩
    · rw [← hv, ← List.drop_eq_getElem_cons hlt, List.take_append_drop]
    · obtain ⟨k, hk⟩ := List.mem_iff_getElem?.1 hm
      rw [List.getElem?_take] at hk
      split at hk
      · rename_i hki; exact h2 k hki hk
      · simp at hk

theorem cutK_miss {l : List UInt8} (k : Nat) (h : Lib.indexByte l 58 = -1) : cutK k l = [l] := by
  cases k with
  | zero => rfl
  | succ k => rw [cutK, if_pos h]
theorem cutK_hit {l : List UInt8} (k i : Nat) (h : Lib.indexByte l 58 = i) : cutK (k + 1) l = l.take i :: cutK k (l.drop (i + 1)) := by
  rw [cutK, if_neg (by omega), h]; rfl
theorem cutK_length : ∀ (k : Nat) (l : List UInt8), (cutK k l).length ≤ k + 1 ∧ 1 ≤ (cutK k l).length
  | 0, l => by simp [cutK]
  | k + 1, l => by
    rcases index_cases l with ⟨h1, h2⟩ | ⟨i, h1, h2, h3, h4⟩
    · rw [cutK_miss _ h1]; simp
    · rw [cutK_hit k i h1, List.length_cons]
      have := cutK_length k (l.drop (i + 1))
      omega
/-! ### the walks -/

set_option maxHeartbeats 1000000 in
set_option maxRecDepth 100000 in
theorem indexByte_any (s : ByteArray) (c : Int) (w : World) :
    Calls Tryd.prog 84 #[.string s, .int .u8 c] w fun e w' => e = .returned (.int .i64 (Lib.indexByte s.data.toList c.toNat.toUInt8)) ∧ w = w' := by
  go_enter Tryd.func84, Tryd.ntmps84
  go_wp2
  rw [run_callFunc_extern Tryd.func91 (by kernel_rfl) (by kernel_rfl) (by kernel_rfl) (e := Extern.BytealgIndexByte.indexByte) (by kernel_rfl), Lib.run_indexByteString]
  simp only [Result.andThen]
  rw [Oper.upon_value]
  go_wp2
  go_ret
  exact ⟨rfl, rfl⟩

set_option maxHeartbeats 2000000 in
set_option maxRecDepth 100000 in
theorem index_lite (s : ByteArray) (w : World) :
    Calls Tryd.prog 72 #[.string s, .string ⟨#[58]⟩] w fun e w' => e = .returned (.int .i64 (Lib.indexByte s.data.toList 58)) ∧ w = w' := by
  go_enter Tryd.func72, Tryd.ntmps72
  go_wp2_with (go_at_call 84; refine (indexByte_any _ _ _).mono ?_; rintro e w' ⟨rfl, rfl⟩)
  · have h : ([58] == s.toList) = true := by assumption
    go_ret
    refine ⟨?_, rfl⟩
    have e : s.data.toList = [58] := by rw [← Lib.toList_data]; exact (beq_iff_eq.1 h).symm
    rw [e]
    rfl
  · go_ret
    exact ⟨rfl, rfl⟩
set_option maxHeartbeats 2000000 in
theorem index_any (s : ByteArray) (w : World) :
    Calls Tryd.prog 56 #[.string s, .string ⟨#[58]⟩] w fun e w' => e = .returned (.int .i64 (Lib.indexByte s.data.toList 58)) ∧ w = w' := by
  go_enter Tryd.func56, Tryd.ntmps56
  go_wp2_with (go_at_call 72; refine (index_lite _ _).mono ?_; rintro e w' ⟨rfl, rfl⟩)
  go_ret
  exact ⟨rfl, rfl⟩

theorem info9 : (Tryd.prog.info? 9).map (fun i => (i.zero, i.size, i.bytes)) = some (some (.string ByteArray.empty), 1, 16) := by kernel_rfl

theorem extract_take (s : ByteArray) (i : Nat) : s.extract 0 i = str (s.data.toList.take i) := by
  apply ByteArray.ext
  apply Array.toList_inj.1
  rw [Lib.extract_data]
  simp [str]
theorem extract_drop (s : ByteArray) (i : Nat) : s.extract i s.size = str (s.data.toList.drop i) := by
  apply ByteArray.ext
  apply Array.toList_inj.1
  rw [Lib.extract_data]
  simp [str]
  rw [List.take_of_length_le (by rw [List.length_drop, size_list]; omega)]

set_option maxHeartbeats 4000000 in
set_option maxRecDepth 1000000 in
theorem genSplit_any (s : ByteArray) (hs : s.size ≤ 4611686018427387904) (N : Nat) (hN : N = min 5 (s.size + 1)) (w : World) :
    Calls Tryd.prog 45 #[.string s, .string ⟨#[58]⟩, .int .i64 0, .int .i64 5] w fun e w' =>
      e = .returned (.slice (some ⟨w.heap.size, 0, none⟩) (cutK (N - 1) s.data.toList).length N) ∧ w' = w.alloc (.cells (Lib.cellsOf ((cutK (N - 1) s.data.toList).map str) N) 9) := by
  have eN : min (5 : Int) ((s.size : Int) + 1) = (N : Int) := by omega
  have hN4 : N ≤ 5 := by omega
  have hN1 : 1 ≤ N := by omega
  clear hN
  have hmk := run_make_row' (P := Tryd.prog) 47 9 (.string ByteArray.empty) 16 Tryd.underlying47 info9 rfl .i64 .i64 N (by omega) (by omega)
  go_enter Tryd.func45, Tryd.ntmps45
  go_wp2
  clear hmk eN
  go_loopg [0, 10] (N - 1) (fun g s0 s10 wr => ∃ (done : List (List UInt8)) (rest : ByteArray), s0 = .string rest ∧ s10 = .int .i64 done.length ∧ done.length ≤ N - 1 ∧ g = N - 1 - done.length ∧ rest.size ≤ s.size ∧
      wr = w.alloc (.cells (Lib.cellsOf (done.map str) N) 9) ∧ done ++ cutK (N - 1 - done.length) rest.data.toList = cutK (N - 1) s.data.toList)
  case atStart => exact ⟨[], s, rfl, rfl, Nat.zero_le _, rfl, Nat.le_refl _, by rw [List.map_nil, Lib.cellsOf_nil], rfl⟩
  case round =>
    obtain ⟨done, rest, rfl, rfl, hd, rfl, hrs, rfl, hsp⟩ := hrel
    have hlen : (done.map str).length = done.length := List.length_map _
    have hnext : (Lib.cellsOf (done.map str) N)[done.length]? = some (.string ByteArray.empty) := by
      have := Lib.cellsOf_next (done := done.map str) (N := N) (by omega)
      rwa [hlen] at this
    have HS := Lib.hid hsp
    clear hsp
    have fin : Hid (cutK (N - 1 - done.length) rest.data.toList = [rest.data.toList] → (cutK (N - 1) s.data.toList).length = done.length + 1 ∧ (Lib.cellsOf (done.map str) N).setIfInBounds done.length (.string rest) = Lib.cellsOf ((cutK (N - 1) s.data.toList).map str) N) := Lib.hid (fun h => by
      have e := HS.out
      rw [h] at e
      rw [← e]
      have := Lib.cellsOf_set (done := done.map str) (N := N) (by omega) rest
      rw [hlen] at this
      exact ⟨by simp, by rw [this, List.map_append, List.map_cons, List.map_nil, str_data]⟩)
    have HL := Lib.hid hlen
    clear hlen
    by_cases hlt : done.length < N - 1
    · have hltz : ((done.length : Nat) : Int) < (N : Int) - 1 := by omega
      rcases index_cases rest.data.toList with ⟨hix, hix'⟩ | ⟨i, hix, hroom, hl, hm⟩
      · have HM := Lib.hid hix
        have c0 : ((-1 : Int) < 0) := by omega
        clear hix hix'
        go_wp2_with (go_at_call 56; refine (index_any _ _).mono ?_; rintro e w' ⟨rfl, rfl⟩; rw [HM.out])
        go_ret
        obtain ⟨f1, f2⟩ := fin.out (cutK_miss _ HM.out)
        rw [f1, ← f2]
        exact ⟨by first | rfl | (congr 2 <;> omega), rfl⟩
      · have HM := Lib.hid hix
        have HE := Lib.hid hl
        rw [size_list] at hroom
        have c0 : ¬ ((i : Int) < 0) := by omega
        have c1 : (0 : Int) ≤ ↑i + 0 := by omega
        have c2 : (↑i + 0 : Int) ≤ ↑rest.size := by omega
        have c3 : (0 : Int) ≤ ↑i + 1 := by omega
        have c4 : (↑i + 1 : Int) ≤ ↑rest.size := by omega
        clear hix hl hm
        go_wp2_with (go_at_call 56; refine (index_any _ _).mono ?_; rintro e w' ⟨rfl, rfl⟩; rw [HM.out])
        go_roundg (N - 1 - (done.length + 1))
        case measure => omega
        case rel =>
          refine ⟨done ++ [rest.data.toList.take i], rest.extract (i + 1) rest.size, rfl, by simp, by simp; omega, by simp, by rw [ByteArray.size_extract]; omega, ?_, ?_⟩
          · have := Lib.cellsOf_set (done := done.map str) (N := N) (by rw [HL.out]; omega) (str (rest.data.toList.take i))
            rw [HL.out] at this
            rw [List.map_append, List.map_cons, List.map_nil, ← this, ← extract_take]
          · rw [← HS.out, extract_drop, str_toList, show N - 1 - done.length = (N - 1 - (done.length + 1)) + 1 by omega, cutK_hit _ i HM.out]
            simp
    · have hltz : ¬ (((done.length : Nat) : Int) < (N : Int) - 1) := by omega
      go_wp2
      go_ret
      obtain ⟨f1, f2⟩ := fin.out (by rw [show N - 1 - done.length = 0 by omega]; rfl)
      rw [f1, ← f2]
      exact ⟨by first | rfl | (congr 2 <;> omega), rfl⟩

set_option maxHeartbeats 1000000 in
theorem splitN_any (s : ByteArray) (hs : s.size ≤ 4611686018427387904) (N : Nat) (hN : N = min 5 (s.size + 1)) (w : World) :
    Calls Tryd.prog 30 #[.string s, .string ⟨#[58]⟩, .int .i64 5] w fun e w' =>
      e = .returned (.slice (some ⟨w.heap.size, 0, none⟩) (cutK (N - 1) s.data.toList).length N) ∧ w' = w.alloc (.cells (Lib.cellsOf ((cutK (N - 1) s.data.toList).map str) N) 9) := by
  have H := Lib.hid (genSplit_any s hs N hN w)
  clear hN
  go_enter Tryd.func30, Tryd.ntmps30
  go_wp2_with (go_at_call 45; refine H.out.mono ?_; rintro e w' ⟨rfl, hw⟩; rw [hw])
  go_ret
  exact ⟨rfl, rfl⟩

end Go.Proofs.YtaljedficmpjpaaDoor.Vec
