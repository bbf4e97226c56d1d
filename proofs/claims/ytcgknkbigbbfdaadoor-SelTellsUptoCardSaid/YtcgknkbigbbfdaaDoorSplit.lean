/- What strings.SplitN answers at any one byte and five pieces, for every text: the pieces up to the fourth such byte, in a new row; of memory that was there nothing turns. Of no layer. -/
import Derived.Test.YtcgknkbigbbfdaaDoorProg
import Derived.Test.YtcgknkbigbbfdaaDoorForms
import Derived.WalkKit
import Derived.WalkSpells
import Derived.WalkLawsBesides
import Derived.Deep.OwnRows
import Derived.Deep.LoopGhost
import Derived.Laws.Strings3
import Derived.Lib.Hide
import Derived.Lib.Walk
import Derived.Lib.Split
namespace Go.Proofs.YtcgknkbigbbfdaaDoor.Split
open Go.RowKit Go.Proofs.YtcgknkbigbbfdaaDoor.Word Go.Proofs.YtcgknkbigbbfdaaDoor.Forms

/-- The pieces up to the k-th such byte, and what is left. -/
def cutK (c : UInt8) : Nat → List UInt8 → List (List UInt8)
  | 0, l => [l]
  | k + 1, l => if Lib.indexByte l c = -1 then [l] else l.take (Lib.indexByte l c).toNat :: cutK c k (l.drop ((Lib.indexByte l c).toNat + 1))

theorem index_cases (l : List UInt8) (c : UInt8) : (Lib.indexByte l c = -1 ∧ c ∉ l) ∨ ∃ i : Nat, Lib.indexByte l c = i ∧ i < l.length ∧ l = l.take i ++ c :: l.drop (i + 1) ∧ c ∉ l.take i := by
  have hge := Lib.indexByte_ge l c
  by_cases h : Lib.indexByte l c = -1
  · left
    refine ⟨h, fun hm => ?_⟩
    obtain ⟨k, hk⟩ := List.mem_iff_getElem?.1 hm
    exact Lib.indexByte_none h k hk
  · right
    obtain ⟨i, hi⟩ := Int.eq_ofNat_of_zero_le (show 0 ≤ Lib.indexByte l c by omega)
    obtain ⟨h1, h2⟩ := Lib.indexByte_some hi
    obtain ⟨hlt, hv⟩ := List.getElem?_eq_some_iff.1 h1
    refine ⟨i, hi, hlt, ?_, fun hm => ?_⟩
    · rw [← hv, ← List.drop_eq_getElem_cons hlt, List.take_append_drop]
    · obtain ⟨k, hk⟩ := List.mem_iff_getElem?.1 hm
      rw [List.getElem?_take] at hk
      split at hk
      · rename_i hki; exact h2 k hki hk
      · simp at hk
theorem cutK_miss {c : UInt8} {l : List UInt8} (k : Nat) (h : Lib.indexByte l c = -1) : cutK c k l = [l] := by
  cases k with
  | zero => rfl
  | succ k => rw [cutK, if_pos h]
theorem cutK_hit {c : UInt8} {l : List UInt8} (k i : Nat) (h : Lib.indexByte l c = i) : cutK c (k + 1) l = l.take i :: cutK c k (l.drop (i + 1)) := by
  rw [cutK, if_neg (by omega), h]; rfl
theorem cuts_hit {c : UInt8} {l : List UInt8} {i : Nat} (h : l = l.take i ++ c :: l.drop (i + 1)) (hm : c ∉ l.take i) : cuts c l = l.take i :: cuts c (l.drop (i + 1)) := by
  have := cuts_cut (l.drop (i + 1)) hm
  rw [← h] at this
  exact this
theorem cutK_length (c : UInt8) : ∀ (k : Nat) (l : List UInt8), (cutK c k l).length ≤ k + 1 ∧ 1 ≤ (cutK c k l).length
  | 0, l => by simp [cutK]
  | k + 1, l => by
    rcases index_cases l c with ⟨h1, h2⟩ | ⟨i, h1, h2, h3, h4⟩
    · rw [cutK_miss _ h1]; simp
    · rw [cutK_hit k i h1, List.length_cons]
      have := cutK_length c k (l.drop (i + 1))
      omega
theorem cutK_few (c : UInt8) : ∀ (k : Nat) (l : List UInt8), (cutK c k l).length ≤ k → cutK c k l = cuts c l
  | 0, l, h => by simp [cutK] at h
  | k + 1, l, h => by
    rcases index_cases l c with ⟨h1, h2⟩ | ⟨i, h1, _, h3, h4⟩
    · rw [cutK_miss _ h1, cuts_free h2]
    · rw [cutK_hit k i h1] at h ⊢
      rw [cutK_few c k _ (by simpa using h), cuts_hit h3 h4]
theorem cutK_all (c : UInt8) : ∀ (k : Nat) (l : List UInt8), l.length ≤ k → cutK c k l = cuts c l
  | 0, l, h => by
    obtain rfl : l = [] := List.eq_nil_of_length_eq_zero (by omega)
    rfl
  | k + 1, l, h => by
    rcases index_cases l c with ⟨h1, h2⟩ | ⟨i, h1, h2, h3, h4⟩
    · rw [cutK_miss _ h1, cuts_free h2]
    · rw [cutK_hit k i h1, cutK_all c k _ (by rw [List.length_drop]; omega), cuts_hit h3 h4]
theorem cutK_le (c : UInt8) : ∀ (k : Nat) (l : List UInt8), (cutK c k l).length ≤ (cuts c l).length
  | 0, l => by have := cuts_ne c l; have := List.length_pos_iff.2 this; simp [cutK]; omega
  | k + 1, l => by
    rcases index_cases l c with ⟨h1, h2⟩ | ⟨i, h1, h2, h3, h4⟩
    · rw [cutK_miss _ h1, cuts_free h2]; exact Nat.le_refl _
    · rw [cutK_hit k i h1, cuts_hit h3 h4, List.length_cons, List.length_cons]
      have := cutK_le c k (l.drop (i + 1))
      omega
/-- As many cuts as a short text can have are as good as four. -/
theorem cutK_four (c : UInt8) (l : List UInt8) : cutK c (min 5 (l.length + 1) - 1) l = cutK c 4 l := by
  by_cases h : 4 ≤ l.length
  · rw [show min 5 (l.length + 1) - 1 = 4 by omega]
  · rw [cutK_all c _ l (by omega), cutK_all c 4 l (by omega)]
/-- Four pieces at the most, or too many. -/
theorem cutK_cuts (c : UInt8) (l : List UInt8) : ((cutK c 4 l).length ≤ 4 ∧ cutK c 4 l = cuts c l) ∨ (4 < (cutK c 4 l).length ∧ 4 < (cuts c l).length) := by
  by_cases h : (cutK c 4 l).length ≤ 4
  · exact .inl ⟨h, cutK_few c 4 l h⟩
  · have := cutK_le c 4 l
    exact .inr ⟨by omega, by omega⟩

/-! ### the walks -/

set_option maxHeartbeats 1000000 in
set_option maxRecDepth 100000 in
theorem indexByte_any (s : ByteArray) (c : Int) (w : World) :
    Calls Tryd.prog 94 #[.string s, .int .u8 c] w fun e w' => e = .returned (.int .i64 (Lib.indexByte s.data.toList c.toNat.toUInt8)) ∧ w = w' := by
  go_enter Tryd.func94, Tryd.ntmps94
  go_wp2
  rw [run_callFunc_extern Tryd.func99 (by kernel_rfl) (by kernel_rfl) (by kernel_rfl) (e := Extern.BytealgIndexByte.indexByte) (by kernel_rfl), Lib.run_indexByteString]
  simp only [Result.andThen]
  rw [Oper.upon_value]
  go_wp2
  go_ret
  exact ⟨rfl, rfl⟩

theorem one_list (c : UInt8) : (⟨#[c]⟩ : ByteArray).toList = [c] := by rw [Lib.toList_data]
theorem one_size (c : UInt8) : (⟨#[c]⟩ : ByteArray).size = 1 := rfl
set_option maxHeartbeats 2000000 in
set_option maxRecDepth 100000 in
theorem index_lite (c : UInt8) (s : ByteArray) (w : World) :
    Calls Tryd.prog 87 #[.string s, .string ⟨#[c]⟩] w fun e w' => e = .returned (.int .i64 (Lib.indexByte s.data.toList c)) ∧ w = w' := by
  have hc : ((c.toNat : Int)).toNat.toUInt8 = c := by simp
  go_enter Tryd.func87, Tryd.ntmps87
  go_wp2_with (go_at_call 94; refine (indexByte_any _ _ _).mono ?_; rintro e w' ⟨rfl, rfl⟩)
  · have h : ([c] == s.toList) = true := by assumption
    go_ret
    refine ⟨?_, rfl⟩
    have e : s.data.toList = [c] := by rw [← Lib.toList_data]; exact (beq_iff_eq.1 h).symm
    rw [e]
    have hge := Lib.indexByte_ge [c] c
    rcases index_cases [c] c with ⟨h1, h2⟩ | ⟨j, h1, h2, _⟩
    · simp at h2
    · simp at h2
      subst h2
      rw [h1]
      rfl
  · go_ret
    exact ⟨rfl, rfl⟩
set_option maxHeartbeats 2000000 in
theorem index_any (c : UInt8) (s : ByteArray) (w : World) :
    Calls Tryd.prog 85 #[.string s, .string ⟨#[c]⟩] w fun e w' => e = .returned (.int .i64 (Lib.indexByte s.data.toList c)) ∧ w = w' := by
  go_enter Tryd.func85, Tryd.ntmps85
  go_wp2_with (go_at_call 87; refine (index_lite c _ _).mono ?_; rintro e w' ⟨rfl, rfl⟩)
  go_ret
  exact ⟨rfl, rfl⟩

theorem info9 : (Tryd.prog.info? 9).map (fun i => (i.zero, i.size, i.bytes)) = some (some (.string ByteArray.empty), 1, 16) := by kernel_rfl

theorem extract_take (s : ByteArray) (i : Nat) : s.extract 0 i = str (s.data.toList.take i) := by
  apply ByteArray.ext
  apply Array.toList_inj.1
  rw [Lib.extract_data]
  simp [str]
theorem extract_drop (s : ByteArray) (i : Nat) : s.extract i s.size = str (s.data.toList.drop i) := by
  apply ByteArray.ext
  apply Array.toList_inj.1
  rw [Lib.extract_data]
  simp [str]
  rw [List.take_of_length_le (by rw [List.length_drop, size_list]; omega)]

set_option maxHeartbeats 4000000 in
set_option maxRecDepth 1000000 in
theorem genSplit_any (c : UInt8) (s : ByteArray) (hs : s.size ≤ 4611686018427387904) (N : Nat) (hN : N = min 5 (s.size + 1)) (w : World) :
    Calls Tryd.prog 75 #[.string s, .string ⟨#[c]⟩, .int .i64 0, .int .i64 5] w fun e w' =>
      e = .returned (.slice (some ⟨w.heap.size, 0, none⟩) (cutK c (N - 1) s.data.toList).length N) ∧ w' = w.alloc (.cells (Lib.cellsOf ((cutK c (N - 1) s.data.toList).map str) N) 9) := by
  have eN : min (5 : Int) ((s.size : Int) + 1) = (N : Int) := by omega
  have hN4 : N ≤ 5 := by omega
  have hN1 : 1 ≤ N := by omega
  clear hN
  have hmk := run_make_row' (P := Tryd.prog) 49 9 (.string ByteArray.empty) 16 Tryd.underlying49 info9 rfl .i64 .i64 N (by omega) (by omega)
  go_enter Tryd.func75, Tryd.ntmps75
  go_wp2
  clear hmk eN
  go_loopg [0, 10] (N - 1) (fun g s0 s10 wr => ∃ (done : List (List UInt8)) (rest : ByteArray), s0 = .string rest ∧ s10 = .int .i64 done.length ∧ done.length ≤ N - 1 ∧ g = N - 1 - done.length ∧ rest.size ≤ s.size ∧
      wr = w.alloc (.cells (Lib.cellsOf (done.map str) N) 9) ∧ done ++ cutK c (N - 1 - done.length) rest.data.toList = cutK c (N - 1) s.data.toList)
  case atStart => exact ⟨[], s, rfl, rfl, Nat.zero_le _, rfl, Nat.le_refl _, by rw [List.map_nil, Lib.cellsOf_nil], rfl⟩
  case round =>
    obtain ⟨done, rest, rfl, rfl, hd, rfl, hrs, rfl, hsp⟩ := hrel
    have hlen : (done.map str).length = done.length := List.length_map _
    have hnext : (Lib.cellsOf (done.map str) N)[done.length]? = some (.string ByteArray.empty) := by
      have := Lib.cellsOf_next (done := done.map str) (N := N) (by omega)
      rwa [hlen] at this
    have HS := Lib.hid hsp
    clear hsp
    have fin : Hid (cutK c (N - 1 - done.length) rest.data.toList = [rest.data.toList] → (cutK c (N - 1) s.data.toList).length = done.length + 1 ∧ (Lib.cellsOf (done.map str) N).setIfInBounds done.length (.string rest) = Lib.cellsOf ((cutK c (N - 1) s.data.toList).map str) N) := Lib.hid (fun h => by
      have e := HS.out
      rw [h] at e
      rw [← e]
      have := Lib.cellsOf_set (done := done.map str) (N := N) (by omega) rest
      rw [hlen] at this
      exact ⟨by simp, by rw [this, List.map_append, List.map_cons, List.map_nil, str_data]⟩)
    have HL := Lib.hid hlen
    clear hlen
    by_cases hlt : done.length < N - 1
    · have hltz : ((done.length : Nat) : Int) < (N : Int) - 1 := by omega
      rcases index_cases rest.data.toList c with ⟨hix, hix'⟩ | ⟨i, hix, hroom, hl, hm⟩
      · have HM := Lib.hid hix
        have k0 : ((-1 : Int) < 0) := by omega
        clear hix hix'
        go_wp2_with (go_at_call 85; refine (index_any c _ _).mono ?_; rintro e w' ⟨rfl, rfl⟩; rw [HM.out])
        go_ret
        obtain ⟨f1, f2⟩ := fin.out (cutK_miss _ HM.out)
        rw [f1, ← f2]
        exact ⟨by first | rfl | (congr 2 <;> omega), rfl⟩
      · have HM := Lib.hid hix
        have HE := Lib.hid hl
        rw [size_list] at hroom
        have k0 : ¬ ((i : Int) < 0) := by omega
        have k1 : (0 : Int) ≤ ↑i + 0 := by omega
        have k2 : (↑i + 0 : Int) ≤ ↑rest.size := by omega
        have k3 : (0 : Int) ≤ ↑i + 1 := by omega
        have k4 : (↑i + 1 : Int) ≤ ↑rest.size := by omega
        clear hix hl hm
        go_wp2_with (go_at_call 85; refine (index_any c _ _).mono ?_; rintro e w' ⟨rfl, rfl⟩; rw [HM.out])
        go_roundg (N - 1 - (done.length + 1))
        case measure => omega
        case rel =>
          refine ⟨done ++ [rest.data.toList.take i], rest.extract (i + 1) rest.size, rfl, by simp, by simp; omega, by simp, by rw [ByteArray.size_extract]; omega, ?_, ?_⟩
          · have := Lib.cellsOf_set (done := done.map str) (N := N) (by rw [HL.out]; omega) (str (rest.data.toList.take i))
            rw [HL.out] at this
            rw [List.map_append, List.map_cons, List.map_nil, ← this, ← extract_take]
          · rw [← HS.out, extract_drop, str_toList, show N - 1 - done.length = (N - 1 - (done.length + 1)) + 1 by omega, cutK_hit _ i HM.out]
            simp
    · have hltz : ¬ (((done.length : Nat) : Int) < (N : Int) - 1) := by omega
      go_wp2
      go_ret
      obtain ⟨f1, f2⟩ := fin.out (by rw [show N - 1 - done.length = 0 by omega]; rfl)
      rw [f1, ← f2]
      exact ⟨by first | rfl | (congr 2 <;> omega), rfl⟩

set_option maxHeartbeats 1000000 in
theorem splitN_any (c : UInt8) (s : ByteArray) (hs : s.size ≤ 4611686018427387904) (N : Nat) (hN : N = min 5 (s.size + 1)) (w : World) :
    Calls Tryd.prog 56 #[.string s, .string ⟨#[c]⟩, .int .i64 5] w fun e w' =>
      e = .returned (.slice (some ⟨w.heap.size, 0, none⟩) (cutK c (N - 1) s.data.toList).length N) ∧ w' = w.alloc (.cells (Lib.cellsOf ((cutK c (N - 1) s.data.toList).map str) N) 9) := by
  have H := Lib.hid (genSplit_any c s hs N hN w)
  clear hN
  go_enter Tryd.func56, Tryd.ntmps56
  go_wp2_with (go_at_call 75; refine H.out.mono ?_; rintro e w' ⟨rfl, hw⟩; rw [hw])
  go_ret
  exact ⟨rfl, rfl⟩

end Go.Proofs.YtcgknkbigbbfdaaDoor.Split
