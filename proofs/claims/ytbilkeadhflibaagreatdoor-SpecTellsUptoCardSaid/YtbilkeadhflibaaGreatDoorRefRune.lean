/- What the document's own long answers, for every text. -/
import Derived.Test.YtbilkeadhflibaaGreatDoorRefLong
namespace Go.Proofs.YtbilkeadhflibaaGreatDoor.Word
open Go.RowKit Go.PlainAid

/-- How many bytes the rune has that stands first; 0: none is one. -/
def longL (l : List UInt8) : Nat := if l = [] then 0 else if (dec l).1 = 65533 ∧ (dec l).2 = 1 then 0 else (dec l).2

theorem bt_getD (s : ByteArray) (k : Nat) : bt s k = ((s.data.toList.getD k 0).toNat : Int) := by
  unfold bt
  rw [List.getD_eq_getElem?_getD]
  split
  · rename_i h
    have h' : k < s.data.toList.length := by rw [size_list]; exact h
    rw [List.getElem?_eq_getElem h']
    rfl
  · rename_i h
    rw [List.getElem?_eq_none (by rw [size_list]; omega)]
    rfl

theorem long_slow (s : ByteArray) (hn : 1 ≤ s.size) (sz lo hi : Nat) (_h2 : 2 ≤ sz)
    (h : Lib.slowN s.size (s.data.toList.getD 0 0).toNat (s.data.toList.getD 1 0).toNat (s.data.toList.getD 2 0).toNat (s.data.toList.getD 3 0).toNat sz lo hi = Lib.decodeN s.size (s.data.toList.getD 0 0).toNat (s.data.toList.getD 1 0).toNat (s.data.toList.getD 2 0).toNat (s.data.toList.getD 3 0).toNat) :
    longL s.data.toList = slowR s.size (bt s 1) (bt s 2) (bt s 3) sz lo hi := by
  have hne : s.data.toList ≠ [] := fun e => by have := size_list s; rw [e, List.length_nil] at this; omega
  unfold longL dec
  rw [if_neg hne, size_list, ← h, bt_getD, bt_getD, bt_getD]
  generalize (s.data.toList.getD 0 0).toNat = b0
  generalize (s.data.toList.getD 1 0).toNat = b1
  generalize (s.data.toList.getD 2 0).toNat = b2
  generalize (s.data.toList.getD 3 0).toNat = b3
  by_cases c1 : s.size < sz
  · simp [Lib.slowN, slowR, c1]
  by_cases c2 : b1 < lo ∨ hi < b1
  · simp [Lib.slowN, slowR, c1, c2]
  by_cases c3 : sz ≤ 2
  · simp [Lib.slowN, slowR, c1, c2, c3]
  by_cases c4 : b2 < 128 ∨ 191 < b2
  · have c4' : (b2 : Int) < 128 ∨ 191 < (b2 : Int) := by omega
    simp [Lib.slowN, slowR, c1, c2, c3, c4, c4']
  have c4' : ¬ ((b2 : Int) < 128 ∨ 191 < (b2 : Int)) := by omega
  by_cases c5 : sz ≤ 3
  · simp [Lib.slowN, slowR, c1, c2, c3, c4, c4', c5]
  by_cases c6 : b3 < 128 ∨ 191 < b3
  · have c6' : (b3 : Int) < 128 ∨ 191 < (b3 : Int) := by omega
    simp [Lib.slowN, slowR, c1, c2, c3, c4, c4', c5, c6, c6']
  have c6' : ¬ ((b3 : Int) < 128 ∨ 191 < (b3 : Int)) := by omega
  simp [Lib.slowN, slowR, c1, c2, c3, c4, c4', c5, c6, c6']

set_option maxRecDepth 100000 in
set_option maxHeartbeats 2000000 in
theorem long_any (s : ByteArray) (hs : s.size ≤ 4611686018427387904) (w : World) :
    Calls Tryz.prog 126 #[.string s] w fun e w' => e = .returned (.int .i64 (longL s.data.toList : Nat)) ∧ w = w' := by
  by_cases hn : s.size = 0
  · have HR := Lib.hid (show longL s.data.toList = 0 by unfold longL; rw [if_pos (List.eq_nil_of_length_eq_zero (by rw [size_list]; exact hn))])
    go_enter Tryz.func126, Tryz.ntmps126
    go_wp2
    go_ret
    exact ⟨by rw [HR.out]; rfl, rfl⟩
  have hn1 : 1 ≤ s.size := by omega
  have hne : s.data.toList ≠ [] := fun e => by have := size_list s; rw [e, List.length_nil] at this; omega
  have hn0 : ((s.size : Int) == 0) = false := by rw [beq_eq_false_iff_ne]; omega
  have e0 := bt_getD s 0
  have l0 := (s.data.toList.getD 0 0).toNat_lt
  have l1 := (s.data.toList.getD 1 0).toNat_lt
  have l2 := (s.data.toList.getD 2 0).toNat_lt
  have l3 := (s.data.toList.getD 3 0).toNat_lt
  by_cases h1 : bt s 0 < 128
  · have HR := Lib.hid (show longL s.data.toList = 1 by
      have : dec s.data.toList = ((s.data.toList.getD 0 0).toNat, 1) := by
        unfold dec Lib.decodeN
        rw [if_pos (by omega)]
      unfold longL
      rw [if_neg hne, this, if_neg (by intro h; have := h.1; simp only at this; omega)])
    have hbt := get_bt s
    clear e0 l0 l1 l2 l3 hne hn
    go_enter Tryz.func126, Tryz.ntmps126
    go_wp2
    go_ret
    exact ⟨by rw [HR.out]; rfl, rfl⟩
  by_cases h2 : bt s 0 < 194 ∨ 244 < bt s 0
  · have HR := Lib.hid (show longL s.data.toList = 0 by
      unfold longL dec
      rw [if_neg hne, size_list]
      have : Lib.decodeN s.size (s.data.toList.getD 0 0).toNat (s.data.toList.getD 1 0).toNat (s.data.toList.getD 2 0).toNat (s.data.toList.getD 3 0).toNat = (65533, 1) := by
        generalize (s.data.toList.getD 0 0).toNat = b0 at e0 l0
        generalize (s.data.toList.getD 1 0).toNat = b1 at l1
        generalize (s.data.toList.getD 2 0).toNat = b2 at l2
        generalize (s.data.toList.getD 3 0).toNat = b3 at l3
        unfold Lib.decodeN
        repeat' split
        all_goals first | rfl | (exfalso; omega)
      rw [this]
      simp)
    have hbt := get_bt s
    clear e0 l0 l1 l2 l3 hne hn
    rcases h2 with h2 | h2
    all_goals
      go_enter Tryz.func126, Tryz.ntmps126
      go_wp2
      go_ret
      exact ⟨by rw [HR.out]; rfl, rfl⟩
  have l1' : (s.data.toList.getD 1 0).toNat < 256 := l1
  have l2' : (s.data.toList.getD 2 0).toNat < 256 := l2
  have l3' : (s.data.toList.getD 3 0).toNat < 256 := l3
  by_cases c : bt s 0 ≤ 223
  · rw [long_slow s hn1 2 128 191 (by omega) (Lib.slow_C2 _ _ _ _ _ hn1 l1' l2' l3' (by omega))]
    exact long_C2 s hs hn1 (by omega) c w
  by_cases c : bt s 0 = 224
  · rw [long_slow s hn1 3 160 191 (by omega) (Lib.slow_E0 _ _ _ _ _ hn1 l1' l2' l3' (by omega))]
    exact long_E0 s hs hn1 c w
  by_cases c : bt s 0 ≤ 236
  · rw [long_slow s hn1 3 128 191 (by omega) (Lib.slow_E1 _ _ _ _ _ hn1 l1' l2' l3' (by omega))]
    exact long_E1 s hs hn1 (by omega) c w
  by_cases c : bt s 0 = 237
  · rw [long_slow s hn1 3 128 159 (by omega) (Lib.slow_ED _ _ _ _ _ hn1 l1' l2' l3' (by omega))]
    exact long_ED s hs hn1 c w
  by_cases c : bt s 0 ≤ 239
  · rw [long_slow s hn1 3 128 191 (by omega) (Lib.slow_E1 _ _ _ _ _ hn1 l1' l2' l3' (by omega))]
    exact long_E2 s hs hn1 (by omega) c w
  by_cases c : bt s 0 = 240
  · rw [long_slow s hn1 4 144 191 (by omega) (Lib.slow_F0 _ _ _ _ _ hn1 l1' l2' l3' (by omega))]
    exact long_F0 s hs hn1 c w
  by_cases c : bt s 0 ≤ 243
  · rw [long_slow s hn1 4 128 191 (by omega) (Lib.slow_F1 _ _ _ _ _ hn1 l1' l2' l3' (by omega))]
    exact long_F1 s hs hn1 (by omega) c w
  · rw [long_slow s hn1 4 128 143 (by omega) (Lib.slow_F4 _ _ _ _ _ hn1 l1' l2' l3' (by omega))]
    exact long_F4 s hs hn1 (by omega) w
end Go.Proofs.YtbilkeadhflibaaGreatDoor.Word
