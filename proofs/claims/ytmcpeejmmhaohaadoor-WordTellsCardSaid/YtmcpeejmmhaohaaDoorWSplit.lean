/- What strings.SplitN answers at a slash and four pieces, for every text: the pieces up to the third slash, in a new row; of memory that was there nothing turns. -/
import Derived.Test.YtmcpeejmmhaohaaDoorProg
import Derived.Test.YtmcpeejmmhaohaaDoorWRight
import Derived.WalkKit
import Derived.WalkSpells
import Derived.WalkLawsBesides
import Derived.Deep.OwnRows
import Derived.Deep.LoopGhost
import Derived.Laws.Strings3
import Derived.Lib.Hide
import Derived.Lib.Walk
import Derived.Lib.Split
namespace Go.Proofs.YtmcpeejmmhaohaaDoor.Word
open Go.RowKit

/-- The pieces up to the k-th slash, and what is left. -/
def cutK : Nat → List UInt8 → List (List UInt8)
  | 0, l => [l]
  | k + 1, l => if Lib.indexByte l 47 = -1 then [l] else l.take (Lib.indexByte l 47).toNat :: cutK k (l.drop ((Lib.indexByte l 47).toNat + 1))

theorem index_cases (l : List UInt8) : (Lib.indexByte l 47 = -1 ∧ (47 : UInt8) ∉ l) ∨ ∃ i : Nat, Lib.indexByte l 47 = i ∧ i < l.length ∧ l = l.take i ++ 47 :: l.drop (i + 1) ∧ (47 : UInt8) ∉ l.take i := by
  have hge := Lib.indexByte_ge l 47
  by_cases h : Lib.indexByte l 47 = -1
  · left
    refine ⟨h, fun hm => ?_⟩
    obtain ⟨k, hk⟩ := List.mem_iff_getElem?.1 hm
    exact Lib.indexByte_none h k hk
  · right
    obtain ⟨i, hi⟩ := Int.eq_ofNat_of_zero_le (show 0 ≤ Lib.indexByte l 47 by omega)
    obtain ⟨h1, h2⟩ := Lib.indexByte_some hi
    obtain ⟨hlt, hv⟩ := List.getElem?_eq_some_iff.1 h1
    refine ⟨i, hi, hlt, ?_, fun hm => ?_⟩
    · rw [← hv, ← List.drop_eq_getElem_cons hlt, List.take_append_drop]
    · obtain ⟨k, hk⟩ := List.mem_iff_getElem?.1 hm
      rw [List.getElem?_take] at hk
      split at hk
      · rename_i hki; exact h2 k hki hk
      · simp at hk

theorem cutK_miss {l : List UInt8} (k : Nat) (h : Lib.indexByte l 47 = -1) : cutK k l = [l] := by
  cases k with
  | zero => rfl
  | succ k => rw [cutK, if_pos h]
theorem cutK_hit {l : List UInt8} (k i : Nat) (h : Lib.indexByte l 47 = i) : cutK (k + 1) l = l.take i :: cutK k (l.drop (i + 1)) := by
  rw [cutK, if_neg (by omega), h]; rfl
theorem pieces_hit {l : List UInt8} {i : Nat} (h : l = l.take i ++ 47 :: l.drop (i + 1)) (hm : (47 : UInt8) ∉ l.take i) : pieces l = l.take i :: pieces (l.drop (i + 1)) := by
  have := pieces_cut (l.drop (i + 1)) hm
  rw [← h] at this
  exact this

theorem cutK_few : ∀ (k : Nat) (l : List UInt8), (cutK k l).length ≤ k → cutK k l = pieces l
  | 0, l, h => by simp [cutK] at h
  | k + 1, l, h => by
    rcases index_cases l with ⟨h1, h2⟩ | ⟨i, h1, _, h3, h4⟩
    · rw [cutK_miss _ h1, pieces_free h2]
    · rw [cutK_hit k i h1] at h ⊢
      rw [cutK_few k _ (by simpa using h), pieces_hit h3 h4]
theorem cutK_all : ∀ (k : Nat) (l : List UInt8), l.length ≤ k → cutK k l = pieces l
  | 0, l, h => by
    obtain rfl : l = [] := List.eq_nil_of_length_eq_zero (by omega)
    rfl
  | k + 1, l, h => by
    rcases index_cases l with ⟨h1, h2⟩ | ⟨i, h1, h2, h3, h4⟩
    · rw [cutK_miss _ h1, pieces_free h2]
    · rw [cutK_hit k i h1, cutK_all k _ (by rw [List.length_drop]; omega), pieces_hit h3 h4]
theorem cutK_le : ∀ (k : Nat) (l : List UInt8), (cutK k l).length ≤ (pieces l).length
  | 0, l => by have := pieces_ne l; have := List.length_pos_iff.2 this; simp [cutK]; omega
  | k + 1, l => by
    rcases index_cases l with ⟨h1, h2⟩ | ⟨i, h1, h2, h3, h4⟩
    · rw [cutK_miss _ h1, pieces_free h2]; exact Nat.le_refl _
    · rw [cutK_hit k i h1, pieces_hit h3 h4, List.length_cons, List.length_cons]
      have := cutK_le k (l.drop (i + 1))
      omega
theorem cutK_length : ∀ (k : Nat) (l : List UInt8), (cutK k l).length ≤ k + 1 ∧ 1 ≤ (cutK k l).length
  | 0, l => by simp [cutK]
  | k + 1, l => by
    rcases index_cases l with ⟨h1, h2⟩ | ⟨i, h1, h2, h3, h4⟩
    · rw [cutK_miss _ h1]; simp
    · rw [cutK_hit k i h1, List.length_cons]
      have := cutK_length k (l.drop (i + 1))
      omega
/-- As many cuts as a short text can have are as good as three. -/
theorem cutK_three (l : List UInt8) : cutK (min 4 (l.length + 1) - 1) l = cutK 3 l := by
  by_cases h : 3 ≤ l.length
  · rw [show min 4 (l.length + 1) - 1 = 3 by omega]
  · rw [cutK_all _ l (by omega), cutK_all 3 l (by omega)]

/-! ### the walks -/

set_option maxHeartbeats 1000000 in
set_option maxRecDepth 100000 in
theorem indexByte_any (s : ByteArray) (c : Int) (w : World) :
    Calls Tryd.prog 38 #[.string s, .int .u8 c] w fun e w' => e = .returned (.int .i64 (Lib.indexByte s.data.toList c.toNat.toUInt8)) ∧ w = w' := by
  go_enter Tryd.func38, Tryd.ntmps38
  go_wp2
  rw [run_callFunc_extern Tryd.func42 (by kernel_rfl) (by kernel_rfl) (by kernel_rfl) (e := Extern.BytealgIndexByte.indexByte) (by kernel_rfl), Lib.run_indexByteString]
  simp only [Result.andThen]
  rw [Oper.upon_value]
  go_wp2
  go_ret
  exact ⟨rfl, rfl⟩

set_option maxHeartbeats 2000000 in
set_option maxRecDepth 100000 in
theorem index_lite (s : ByteArray) (w : World) :
    Calls Tryd.prog 36 #[.string s, .string ⟨#[47]⟩] w fun e w' => e = .returned (.int .i64 (Lib.indexByte s.data.toList 47)) ∧ w = w' := by
  go_enter Tryd.func36, Tryd.ntmps36
  go_wp2_with (go_at_call 38; refine (indexByte_any _ _ _).mono ?_; rintro e w' ⟨rfl, rfl⟩)
  · have h : ([47] == s.toList) = true := by assumption
    go_ret
    refine ⟨?_, rfl⟩
    have e : s.data.toList = [47] := by rw [← Lib.toList_data]; exact (beq_iff_eq.1 h).symm
    rw [e]
    rfl
  · go_ret
    exact ⟨rfl, rfl⟩
set_option maxHeartbeats 2000000 in
theorem index_any (s : ByteArray) (w : World) :
    Calls Tryd.prog 32 #[.string s, .string ⟨#[47]⟩] w fun e w' => e = .returned (.int .i64 (Lib.indexByte s.data.toList 47)) ∧ w = w' := by
  go_enter Tryd.func32, Tryd.ntmps32
  go_wp2_with (go_at_call 36; refine (index_lite _ _).mono ?_; rintro e w' ⟨rfl, rfl⟩)
  go_ret
  exact ⟨rfl, rfl⟩

theorem info9 : (Tryd.prog.info? 9).map (fun i => (i.zero, i.size, i.bytes)) = some (some (.string ByteArray.empty), 1, 16) := by kernel_rfl

theorem extract_take (s : ByteArray) (i : Nat) : s.extract 0 i = str (s.data.toList.take i) := by
  apply ByteArray.ext
  apply Array.toList_inj.1
  rw [Lib.extract_data]
  simp [str]
theorem extract_drop (s : ByteArray) (i : Nat) : s.extract i s.size = str (s.data.toList.drop i) := by
  apply ByteArray.ext
  apply Array.toList_inj.1
  rw [Lib.extract_data]
  simp [str]
  rw [List.take_of_length_le (by rw [List.length_drop, size_list]; omega)]

set_option maxHeartbeats 4000000 in
set_option maxRecDepth 1000000 in
theorem genSplit_any (s : ByteArray) (hs : s.size ≤ 4611686018427387904) (N : Nat) (hN : N = min 4 (s.size + 1)) (w : World) :
    Calls Tryd.prog 28 #[.string s, .string ⟨#[47]⟩, .int .i64 0, .int .i64 4] w fun e w' =>
      e = .returned (.slice (some ⟨w.heap.size, 0, none⟩) (cutK (N - 1) s.data.toList).length N) ∧ w' = w.alloc (.cells (Lib.cellsOf ((cutK (N - 1) s.data.toList).map str) N) 9) := by
  have eN : min (4 : Int) ((s.size : Int) + 1) = (N : Int) := by omega
  have hN4 : N ≤ 4 := by omega
  have hN1 : 1 ≤ N := by omega
  clear hN
  have hmk := run_make_row' (P := Tryd.prog) 26 9 (.string ByteArray.empty) 16 Tryd.underlying26 info9 rfl .i64 .i64 N (by omega) (by omega)
  go_enter Tryd.func28, Tryd.ntmps28
  go_wp2
  clear hmk eN
  go_loopg [0, 10] (N - 1) (fun g s0 s10 wr => ∃ (done : List (List UInt8)) (rest : ByteArray), s0 = .string rest ∧ s10 = .int .i64 done.length ∧ done.length ≤ N - 1 ∧ g = N - 1 - done.length ∧ rest.size ≤ s.size ∧
      wr = w.alloc (.cells (Lib.cellsOf (done.map str) N) 9) ∧ done ++ cutK (N - 1 - done.length) rest.data.toList = cutK (N - 1) s.data.toList)
  case atStart => exact ⟨[], s, rfl, rfl, Nat.zero_le _, rfl, Nat.le_refl _, by rw [List.map_nil, Lib.cellsOf_nil], rfl⟩
  case round =>
    obtain ⟨done, rest, rfl, rfl, hd, rfl, hrs, rfl, hsp⟩ := hrel
    have hlen : (done.map str).length = done.length := List.length_map _
    have hnext : (Lib.cellsOf (done.map str) N)[done.length]? = some (.string ByteArray.empty) := by
      have := Lib.cellsOf_next (done := done.map str) (N := N) (by omega)
      rwa [hlen] at this
    have HS := Lib.hid hsp
    clear hsp
    have fin : Hid (cutK (N - 1 - done.length) rest.data.toList = [rest.data.toList] → (cutK (N - 1) s.data.toList).length = done.length + 1 ∧ (Lib.cellsOf (done.map str) N).setIfInBounds done.length (.string rest) = Lib.cellsOf ((cutK (N - 1) s.data.toList).map str) N) := Lib.hid (fun h => by
      have e := HS.out
      rw [h] at e
      rw [← e]
      have := Lib.cellsOf_set (done := done.map str) (N := N) (by omega) rest
      rw [hlen] at this
      exact ⟨by simp, by rw [this, List.map_append, List.map_cons, List.map_nil, str_data]⟩)
    have HL := Lib.hid hlen
    clear hlen
    by_cases hlt : done.length < N - 1
    · have hltz : ((done.length : Nat) : Int) < (N : Int) - 1 := by omega
      rcases index_cases rest.data.toList with ⟨hix, hix'⟩ | ⟨i, hix, hroom, hl, hm⟩
      · have HM := Lib.hid hix
        have c0 : ((-1 : Int) < 0) := by omega
        clear hix hix'
        go_wp2_with (go_at_call 32; refine (index_any _ _).mono ?_; rintro e w' ⟨rfl, rfl⟩; rw [HM.out])
        go_ret
        obtain ⟨f1, f2⟩ := fin.out (cutK_miss _ HM.out)
        rw [f1, ← f2]
        exact ⟨by first | rfl | (congr 2 <;> omega), rfl⟩
      · have HM := Lib.hid hix
        have HE := Lib.hid hl
        rw [size_list] at hroom
        have c0 : ¬ ((i : Int) < 0) := by omega
        have c1 : (0 : Int) ≤ ↑i + 0 := by omega
        have c2 : (↑i + 0 : Int) ≤ ↑rest.size := by omega
        have c3 : (0 : Int) ≤ ↑i + 1 := by omega
        have c4 : (↑i + 1 : Int) ≤ ↑rest.size := by omega
        clear hix hl hm
        go_wp2_with (go_at_call 32; refine (index_any _ _).mono ?_; rintro e w' ⟨rfl, rfl⟩; rw [HM.out])
        go_roundg (N - 1 - (done.length + 1))
        case measure => omega
        case rel =>
          refine ⟨done ++ [rest.data.toList.take i], rest.extract (i + 1) rest.size, rfl, by simp, by simp; omega, by simp, by rw [ByteArray.size_extract]; omega, ?_, ?_⟩
          · have := Lib.cellsOf_set (done := done.map str) (N := N) (by rw [HL.out]; omega) (str (rest.data.toList.take i))
            rw [HL.out] at this
            rw [List.map_append, List.map_cons, List.map_nil, ← this, ← extract_take]
          · rw [← HS.out, extract_drop, str_toList, show N - 1 - done.length = (N - 1 - (done.length + 1)) + 1 by omega, cutK_hit _ i HM.out]
            simp
    · have hltz : ¬ (((done.length : Nat) : Int) < (N : Int) - 1) := by omega
      go_wp2
      go_ret
      obtain ⟨f1, f2⟩ := fin.out (by rw [show N - 1 - done.length = 0 by omega]; rfl)
      rw [f1, ← f2]
      exact ⟨by first | rfl | (congr 2 <;> omega), rfl⟩

set_option maxHeartbeats 1000000 in
theorem splitN_any (s : ByteArray) (hs : s.size ≤ 4611686018427387904) (N : Nat) (hN : N = min 4 (s.size + 1)) (w : World) :
    Calls Tryd.prog 26 #[.string s, .string ⟨#[47]⟩, .int .i64 4] w fun e w' =>
      e = .returned (.slice (some ⟨w.heap.size, 0, none⟩) (cutK (N - 1) s.data.toList).length N) ∧ w' = w.alloc (.cells (Lib.cellsOf ((cutK (N - 1) s.data.toList).map str) N) 9) := by
  have H := Lib.hid (genSplit_any s hs N hN w)
  clear hN
  go_enter Tryd.func26, Tryd.ntmps26
  go_wp2_with (go_at_call 28; refine H.out.mono ?_; rintro e w' ⟨rfl, hw⟩; rw [hw])
  go_ret
  exact ⟨rfl, rfl⟩

/-- A slice of texts: nothing, or a row whose cells hold them. -/
def Holds (w : World) (v : Value) (ls : List (List UInt8)) : Prop :=
  (ls = [] ∧ v = .slice none 0 0) ∨ ∃ g cap, v = .slice (some ⟨g, 0, none⟩) ls.length cap ∧ g < w.heap.size ∧ ls ≠ [] ∧ ls.length ≤ cap ∧ ∀ j, j < ls.length → w.cell? ⟨g, j, none⟩ = some (.string (str (ls.getD j [])))
theorem Holds.below {w w' : World} {v : Value} {ls : List (List UInt8)} (h : Holds w v ls) (hb : Below w.heap.size w w') : Holds w' v ls := by
  rcases h with h | ⟨g, cap, h1, h2, h3, h4, h5⟩
  · exact .inl h
  · refine .inr ⟨g, cap, h1, by have := hb.size; omega, h3, h4, fun j hj => ?_⟩
    rw [hb.cell h2]
    exact h5 j hj
/-- The call answers a slice of these texts; of memory that was there nothing turns. -/
def Gives (ls : List (List UInt8)) (w : World) (e : Ending) (w' : World) : Prop := ∃ v, e = .returned v ∧ Holds w' v ls ∧ Below w.heap.size w w'

theorem parts_cut (l : List UInt8) : parts l = if (cutK 3 l).length ≤ 3 ∧ (cutK 3 l).all right = true then cutK 3 l else [] := by
  by_cases h : (cutK 3 l).length ≤ 3
  · rw [cutK_few 3 l h]; rfl
  · rw [if_neg (fun hc => h hc.1)]
    unfold parts
    rw [if_neg (fun hc => h (Nat.le_trans (cutK_le 3 l) hc.1))]

theorem cell_of {ps : List (List UInt8)} {N k : Nat} {w : World} (T : TypeId) (hk : k < ps.length) :
    (w.alloc (.cells (Lib.cellsOf (ps.map str) N) T)).cell? ⟨w.heap.size, k, none⟩ = some (.string (str (ps.getD k []))) := by
  have hg : (w.alloc (.cells (Lib.cellsOf (ps.map str) N) T)).heap[w.heap.size]? = some (.cells (Lib.cellsOf (ps.map str) N) T) := by
    show (w.heap.push _)[w.heap.size]? = _
    simp
  have hc : (Lib.cellsOf (ps.map str) N)[k]? = some (.string (str (ps.getD k []))) := by
    unfold Lib.cellsOf
    rw [List.getElem?_toArray, List.getElem?_append_left (by simpa using hk)]
    simp [hk]
  simp only [World.cell?, hg, hc]
  rfl

set_option maxHeartbeats 2000000 in
set_option maxRecDepth 100000 in
theorem parts_walk (s : ByteArray) (ps : List (List UInt8)) (N : Nat) (h1 : 1 ≤ ps.length) (h4 : ps.length ≤ 4) (hN : ps.length ≤ N)
    (HP : Hid (parts s.data.toList = if ps.length ≤ 3 ∧ ps.all right = true then ps else []))
    (HS : Hid (∀ w, Calls Tryd.prog 26 #[.string s, .string ⟨#[47]⟩, .int .i64 4] w fun e w' =>
      e = .returned (.slice (some ⟨w.heap.size, 0, none⟩) ps.length N) ∧ w' = w.alloc (.cells (Lib.cellsOf (ps.map str) N) 9))) (w : World) :
    Calls Tryd.prog 15 #[.string s] w (Gives (parts s.data.toList) w) := by
  have hb0 : Below w.heap.size w (w.alloc (.cells (Lib.cellsOf (ps.map str) N) 9)) := (Below.refl _ _).alloc (Nat.le_refl _) _
  by_cases h3 : ps.length ≤ 3
  · have hcell : ∀ k, k < ps.length → (w.alloc (.cells (Lib.cellsOf (ps.map str) N) 9)).cell? ⟨w.heap.size, k, none⟩ = some (.string (str (ps.getD k []))) := fun k hk => cell_of _ hk
    have HC := Lib.hid hcell
    clear hcell
    go_enter Tryd.func15, Tryd.ntmps15
    go_wp2_with (go_at_call 26; refine (HS.out _).mono ?_; rintro e w' ⟨rfl, hw⟩; rw [hw])
    obtain ⟨w1, hw1⟩ : ∃ w1, w1 = w.alloc (.cells (Lib.cellsOf (ps.map str) N) 9) := ⟨_, rfl⟩
    rw [← hw1] at HC hb0 ⊢
    have hsz : w1.heap.size = w.heap.size + 1 := by rw [hw1]; show (w.heap.push _).size = _; simp
    have HZ := Lib.hid hsz
    clear hw1 hsz
    go_loopw [13] (fun i wr => ∃ k : Nat, i = .int .i64 k ∧ k ≤ ps.length ∧ (∀ x ∈ ps.take k, right x = true) ∧ Below w1.heap.size w1 wr) (fun i _ => ps.length - (intOf i).toNat)
    case atStart => exact ⟨0, rfl, Nat.zero_le _, by simp, Below.refl _ _⟩
    case round =>
      obtain ⟨k, rfl, hk, hall, hb⟩ := hrel
      have HA := Lib.hid hall
      clear hall
      by_cases hlt : k < ps.length
      · have hcl : wr.cell? ⟨w.heap.size, k, none⟩ = some (.string (str (ps.getD k []))) := by
          rw [hb.cell (by show w.heap.size < _; rw [HZ.out]; omega)]
          exact HC.out k hlt
        obtain ⟨p, hp⟩ : ∃ p, p = ps.getD k [] := ⟨_, rfl⟩
        rw [← hp] at hcl
        have HQ := Lib.hid hp
        clear hp
        have hr : Hid (right p = true) ∨ Hid (right p = false) := by cases h : right p; exact .inr (Lib.hid rfl); exact .inl (Lib.hid rfl)
        rcases hr with hr | hr
        · go_wp2_with (go_at_call 10; refine (right_any _ _).mono ?_; rintro e w2 ⟨rfl, hb2⟩; rw [str_toList, hr.out])
          go_roundw
          case rel =>
            refine ⟨k + 1, by go_num, by omega, fun x hx => ?_, hb.trans (hb2.mono hb.size)⟩
            rw [List.take_succ_eq_append_getElem hlt, List.mem_append, List.mem_singleton] at hx
            rcases hx with hx | hx
            · exact HA.out x hx
            · rw [hx]
              have := HQ.out
              rw [List.getD_eq_getElem?_getD, List.getElem?_eq_getElem hlt] at this
              rw [← show p = ps[k] from this]
              exact hr.out
          case measure => simp [intOf]; omega
        · go_wp2_with (go_at_call 10; refine (right_any _ _).mono ?_; rintro e w2 ⟨rfl, hb2⟩; rw [str_toList, hr.out])
          go_ret
          refine ⟨_, rfl, .inl ⟨?_, rfl⟩, hb0.trans ((hb.trans (hb2.mono hb.size)).mono hb0.size)⟩
          rw [HP.out, if_neg]
          rintro ⟨_, ha⟩
          have := List.all_eq_true.1 ha p (by
            have := HQ.out
            rw [List.getD_eq_getElem?_getD, List.getElem?_eq_getElem hlt] at this
            rw [show p = ps[k] from this]
            exact List.getElem_mem hlt)
          rw [hr.out] at this
          simp at this
      · have hkn : k = ps.length := by omega
        have HK := Lib.hid hkn
        clear hkn
        go_wp2
        go_ret
        refine ⟨_, rfl, ?_, hb0.trans (hb.mono hb0.size)⟩
        have ha : ps.all right = true := List.all_eq_true.2 (fun x hx => HA.out x (by rw [HK.out, List.take_length]; exact hx))
        rw [HP.out, if_pos ⟨h3, ha⟩]
        refine .inr ⟨w.heap.size, N, rfl, ?_, fun h => by rw [h] at h1; simp at h1, hN, fun j hj => ?_⟩
        · have := hb.size; have := HZ.out; omega
        · rw [hb.cell (by show w.heap.size < _; rw [HZ.out]; omega)]
          exact HC.out j hj
  · go_enter Tryd.func15, Tryd.ntmps15
    go_wp2_with (go_at_call 26; refine (HS.out _).mono ?_; rintro e w' ⟨rfl, hw⟩; rw [hw])
    go_ret
    exact ⟨_, rfl, .inl ⟨by rw [HP.out, if_neg (fun hc => h3 hc.1)], rfl⟩, hb0⟩

theorem parts_any (s : ByteArray) (hs : s.size ≤ 4611686018427387904) (w : World) : Calls Tryd.prog 15 #[.string s] w (Gives (parts s.data.toList) w) := by
  have h3 := cutK_three s.data.toList
  rw [size_list] at h3
  have hl := cutK_length (min 4 (s.size + 1) - 1) s.data.toList
  refine parts_walk s (cutK 3 s.data.toList) (min 4 (s.size + 1)) ?_ ?_ ?_ (Lib.hid (parts_cut _)) (Lib.hid fun w => ?_) w
  · rw [← h3]; exact hl.2
  · rw [← h3]; omega
  · rw [← h3]; omega
  · have := splitN_any s hs _ rfl w
    rw [h3] at this
    exact this
end Go.Proofs.YtmcpeejmmhaohaaDoor.Word
