/- What mac.turned answers of any key that a block holds; of memory that was there nothing turns. -/
import Derived.Test.YthopegokjbibmaaDoorMMath
namespace Go.Proofs.YthopegokjbibmaaDoor.Mac
open Go.RowKit Go.Proofs.YthopegokjbibmaaDoor.Sha

def turnTo (p : List UInt8) (x : UInt8) (k : Nat) : List UInt8 := (p.take k).map (· ^^^ x) ++ p.drop k
theorem turnTo_len (p : List UInt8) (x : UInt8) (k : Nat) : (turnTo p x k).length = p.length := by unfold turnTo; simp; omega
theorem turnTo_at (p : List UInt8) (x : UInt8) (k : Nat) (hk : k < p.length) : (turnTo p x k)[k]? = some p[k] := by
  unfold turnTo
  rw [List.getElem?_append_right (by simp; omega)]
  simp [Nat.min_eq_left (by omega : k ≤ p.length), hk]
theorem turnTo_next (p : List UInt8) (x : UInt8) (k : Nat) (hk : k < p.length) : (turnTo p x k).set k (p[k] ^^^ x) = turnTo p x (k + 1) := by
  unfold turnTo
  have e : ((p.take k).map (· ^^^ x)).length = k := by simp; omega
  rw [List.set_append_right _ _ (by omega), e, Nat.sub_self, List.drop_eq_getElem_cons hk, List.set_cons_zero, List.take_succ_eq_append_getElem hk, List.map_append, List.append_assoc]
  rfl
theorem xor_int (a b : UInt8) : bits .xor .u8 (a.toNat : Int) (b.toNat : Int) = ((a ^^^ b).toNat : Int) := by
  rw [u8_xor_nat _ _ (UInt8.toNat_lt _) (UInt8.toNat_lt _), UInt8.toNat_xor]
theorem vals_set (l : List UInt8) (k : Nat) (x : UInt8) : (vals (l.set k x)).toArray = (vals l).toArray.setIfInBounds k (.int .u8 (x.toNat : Int)) := by
  simp [vals, List.map_set]
theorem vals_at {l : List UInt8} {k : Nat} {c : UInt8} (h : l[k]? = some c) : (vals l).toArray[k]? = some (.int .u8 (c.toNat : Int)) := by simp [vals, h]
set_option maxRecDepth 100000 in
/-- A row of bytes in a block, as a text. -/
theorem conv_block {w : World} {g n c : Nat} {l : List UInt8} {t : TypeId} (h : w.heap[g]? = some (.cells (vals l).toArray t)) (hn : l.length = n) :
    (convert 52 9 (.slice (some ⟨g, 0, none⟩) n c)).run Tryd.prog w = .ok (.string (str l)) w := by
  subst hn
  have := run_convert_bytes_arg (P := Tryd.prog) w 52 5 Tryd.underlying52 Tryd.underlying5 g 0 l.length c (l.map fun c => (c.toNat : Int)) (by simp) (fun i hi => by
    rw [Nat.zero_add]
    refine cell_at h ?_
    simp [vals, hi]) 9 Tryd.underlying9
  rw [this]
  congr 2
  simp only [strOfNums, str, List.map_map]
  congr 1
  congr 1
  exact (List.map_congr_left fun c _ => by simp).trans (List.map_id _)
theorem pad_row (l : List UInt8) (n : Nat) : (vals (List.replicate n 0)).toArray.toList.take 0 ++ Lib.byteCells l ++ (vals (List.replicate n 0)).toArray.toList.drop (0 + l.length) = vals (l ++ List.replicate (n - l.length) 0) := by
  simp [vals, Lib.byteCells]
set_option maxHeartbeats 1000000 in
set_option maxRecDepth 100000 in
theorem turned_any (s : ByteArray) (hs : s.size ≤ 64) (x : UInt8) (w : World) :
    Calls Tryd.prog 36 #[.string s, .int .u8 (x.toNat : Int)] w fun e w' => e = .returned (.string (str (mixL s.data.toList x))) ∧ Below w.heap.size w w' := by
  have hnew : (w.alloc (.cells (vals (List.replicate 64 0)).toArray 83)).heap[w.heap.size]? = some (.cells (vals (List.replicate 64 0)).toArray 83) := heap_alloc_new _ _
  have hcp := Lib.run_copy_row_string (P := Tryd.prog) _ 52 9 3 5 w.heap.size 0 64 64 s _ _ Tryd.underlying52 one5 hnew hs (by simp [vals]; omega)
  have hrow : (((vals (List.replicate 64 0)).toArray.toList.take 0 ++ Lib.byteCells s.data.toList ++ (vals (List.replicate 64 0)).toArray.toList.drop (0 + s.size)).toArray) = (vals (turnTo (padL s.data.toList) x 0)).toArray := by
    rw [← size_list s, pad_row]
    simp only [turnTo, padL, List.take_zero, List.map_nil, List.nil_append, List.drop_zero]
  rw [hrow] at hcp
  have hP : (padL s.data.toList).length = 64 := padL_len (by rw [size_list]; exact hs)
  have HM : Hid (mixL s.data.toList x = turnTo (padL s.data.toList) x 64) := Lib.hid (by
    unfold mixL turnTo
    rw [List.take_of_length_le (by omega), List.drop_eq_nil_of_le (by omega), List.append_nil])
  obtain ⟨P, hPe⟩ : ∃ P, padL s.data.toList = P := ⟨_, rfl⟩
  rw [hPe] at hcp hP HM
  have hb0 : Below w.heap.size w (w.alloc (.cells (vals (List.replicate 64 0)).toArray 83)) := (Below.refl _ _).alloc (Nat.le_refl _) _
  have hb1 := setRow_below hb0 (Nat.le_refl _) (vals (turnTo P x 0)).toArray
  have hh1 := setRow_heap _ _ _ (vals (turnTo P x 0)).toArray _ _ hnew
  obtain ⟨w1, hw1⟩ : ∃ w1, (w.alloc (.cells (vals (List.replicate 64 0)).toArray 83)).setRow w.heap.size (vals (turnTo P x 0)).toArray = w1 := ⟨_, rfl⟩
  rw [hw1] at hcp hb1 hh1
  have hcp' : (Builtin.copy_ #[52, 9] 3 #[.slice (some ⟨w.heap.size, 0, none⟩) 64 64, .string s]).run Tryd.prog (w.alloc (.cells #[.int .u8 0, .int .u8 0, .int .u8 0, .int .u8 0, .int .u8 0, .int .u8 0, .int .u8 0, .int .u8 0, .int .u8 0, .int .u8 0, .int .u8 0, .int .u8 0, .int .u8 0, .int .u8 0, .int .u8 0, .int .u8 0, .int .u8 0, .int .u8 0, .int .u8 0, .int .u8 0, .int .u8 0, .int .u8 0, .int .u8 0, .int .u8 0, .int .u8 0, .int .u8 0, .int .u8 0, .int .u8 0, .int .u8 0, .int .u8 0, .int .u8 0, .int .u8 0, .int .u8 0, .int .u8 0, .int .u8 0, .int .u8 0, .int .u8 0, .int .u8 0, .int .u8 0, .int .u8 0, .int .u8 0, .int .u8 0, .int .u8 0, .int .u8 0, .int .u8 0, .int .u8 0, .int .u8 0, .int .u8 0, .int .u8 0, .int .u8 0, .int .u8 0, .int .u8 0, .int .u8 0, .int .u8 0, .int .u8 0, .int .u8 0, .int .u8 0, .int .u8 0, .int .u8 0, .int .u8 0, .int .u8 0, .int .u8 0, .int .u8 0, .int .u8 0] 83)) = .ok (goInt s.size) w1 := hcp
  clear hcp hnew hb0 hw1 hPe hrow
  go_enter Tryd.func36, Tryd.ntmps36
  go_wp2
  clear hcp'
  go_loopw [10] (fun i wr => ∃ k : Nat, k ≤ 64 ∧ i = .int .i64 k ∧ wr.heap[w.heap.size]? = some (.cells (vals (turnTo P x k)).toArray 83) ∧ Below w.heap.size w wr) (fun i _ => 64 - (intOf i).toNat)
  case atStart => exact ⟨0, Nat.zero_le _, rfl, hh1, hb1⟩
  case round =>
    obtain ⟨k, hk, rfl, hh, hb⟩ := hrel
    clear hh1 hb1
    by_cases hlt : k < 64
    · have hltz : (k : Int) < 64 := by omega
      have hkP : k < P.length := by omega
      have hc := cell_at hh (vals_at (turnTo_at P x k hkP))
      have hf := frozen_at (i := k) hh
      have hx := xor_int P[k] x
      have HN : Hid ((wr.setCell ⟨w.heap.size, k, none⟩ (.int .u8 ((P[k] ^^^ x).toNat : Int))).heap[w.heap.size]? = some (.cells (vals (turnTo P x (k + 1))).toArray 83)) := Lib.hid (by
        rw [← turnTo_next P x k hkP, vals_set]
        exact Lib.heap_setCell_same hh _)
      have HB := Lib.hid (hb.setCell (Nat.le_refl _) (p := (⟨w.heap.size, k, none⟩ : Addr)) (.int .u8 ((P[k] ^^^ x).toNat : Int)))
      obtain ⟨c, hcc⟩ : ∃ c, P[k] = c := ⟨_, rfl⟩
      rw [hcc] at hc hx HN HB
      clear hh hb hcc hkP
      go_wp2
      go_roundw
      case rel => exact ⟨k + 1, by omega, by go_num, HN.out, HB.out⟩
      case measure => simp [intOf]; omega
    · obtain rfl : k = 64 := by omega
      have hcv := conv_block (c := 64) hh (by rw [turnTo_len, hP])
      rw [← HM.out] at hcv
      go_wp2
      go_ret
      exact ⟨rfl, hb⟩
end Go.Proofs.YthopegokjbibmaaDoor.Mac
