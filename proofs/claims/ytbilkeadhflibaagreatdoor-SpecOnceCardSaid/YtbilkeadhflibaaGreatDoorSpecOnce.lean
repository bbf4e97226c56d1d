/-
  demesnelaw11.SpecOnce, for every input: what is got, or parsed, may be, and is put, or shown, as it was (the law answers true, and its arguments read as before).
  Conditions: none beyond the row's own (the reach; what the row lists, tied by the card).
-/
import Derived.Test.YtbilkeadhflibaaGreatDoorJL4
import Derived.Test.YtbilkeadhflibaaGreatDoorTie
import Derived.Test.YtbilkeadhflibaaGreatDoorCards
import Derived.LaidMore
import Derived.Lay
import Derived.PlainAid
import Derived.SevenTiedAt
import Derived.Stop.Joined
namespace Go.Proofs.YtbilkeadhflibaaGreatDoor.specOnce
open Go.RowKit Go.Proofs.YtbilkeadhflibaaGreatDoor.Wire Go.Proofs.YtbilkeadhflibaaGreatDoor.Vec Go.Proofs.YtbilkeadhflibaaGreatDoor.Sel Go.Proofs.YtbilkeadhflibaaGreatDoor.Texts Go.Proofs.YtbilkeadhflibaaGreatDoor.Args Go.Proofs.YtbilkeadhflibaaGreatDoor.Job Go.Proofs.YtbilkeadhflibaaGreatDoor.Forms

/-- The first so many words, blanks between. -/
def acc (f : Nat → ByteArray) : Nat → ByteArray
  | 0 => ⟨#[]⟩
  | k + 1 => (if 0 < k then acc f k ++ ⟨#[32]⟩ else acc f k) ++ f k
theorem acc_le (f : Nat → ByteArray) (k : Nat) : (acc f k).size + (f k).size ≤ (acc f (k + 1)).size := by
  show _ ≤ ((if 0 < k then acc f k ++ ⟨#[32]⟩ else acc f k) ++ f k).size
  rw [size_app]
  split
  · rw [size_app]; omega
  · omega
theorem acc_small (f : Nat → ByteArray) (h : (acc f 6).size ≤ 1400) (i : Nat) (hi : i < 6) : (acc f i).size ≤ 1400 ∧ (f i).size ≤ 1400 := by
  have l0 : (acc f 0).size + (f 0).size ≤ (acc f 1).size := acc_le f 0
  have l1 : (acc f 1).size + (f 1).size ≤ (acc f 2).size := acc_le f 1
  have l2 : (acc f 2).size + (f 2).size ≤ (acc f 3).size := acc_le f 2
  have l3 : (acc f 3).size + (f 3).size ≤ (acc f 4).size := acc_le f 3
  have l4 : (acc f 4).size + (f 4).size ≤ (acc f 5).size := acc_le f 4
  have l5 : (acc f 5).size + (f 5).size ≤ (acc f 6).size := acc_le f 5
  have : i = 0 ∨ i = 1 ∨ i = 2 ∨ i = 3 ∨ i = 4 ∨ i = 5 := by omega
  rcases this with rfl | rfl | rfl | rfl | rfl | rfl <;> constructor <;> omega
theorem acc_six (a b c d e f : ByteArray) : (acc (fun i => [a, b, c, d, e, f].getD i ⟨#[]⟩) 6).data.toList = glueC 32 [a.data.toList, b.data.toList, c.data.toList, d.data.toList, e.data.toList, f.data.toList] := by
  simp [acc, glueC]
theorem acc_text {x : Jb} (h : checkJ x = 0) : acc (fun i => (wordsJ x).getD i ⟨#[]⟩) 6 = textJ x := by
  refine list_eq_of_toList ?_
  rw [Lib.toList_data, Lib.toList_data]
  unfold textJ
  rw [if_pos h, wordsJ_eq, acc_six]
  rfl
theorem extract_put {s : ByteArray} {P : ByteArray} {a b : Nat} (hab : a ≤ b) (hb : b ≤ s.data.toList.length) (h : s.data.toList.drop a = P.data.toList ++ s.data.toList.drop b) : s.extract a b = P := by
  have hl := congrArg List.length h
  rw [List.length_drop, List.length_append, List.length_drop] at hl
  have hz : b = a + P.data.toList.length := by omega
  refine list_eq_of_toList ?_
  rw [hz, ext_list, h, Lib.toList_data, List.take_left]
theorem walk_same (w : World) : Calls Tryz.prog 21 #[zero9, zero9] w fun e w' => e = .returned (.bool true) ∧ Below w.heap.size w w' := by
  have h := same_any nilJ nilJ (.slice none 0 0) (.slice none 0 0) w (TRow.nil w) (TRow.nil w) fairN.terms
  rw [decide_eq_true rfl] at h
  exact h

set_option maxHeartbeats 4000000 in
set_option maxRecDepth 100000 in
theorem walk_nn (s : ByteArray) (w : World)
    (p : Int)
    (HG : Hid (∀ W, Below w.heap.size w W → Calls Tryz.prog 13 #[.string s, .int .i64 p] W fun e w' => e = .returned (.tuple #[.agg #[.string ⟨#[]⟩, .int .u64 0, .int .u64 0, .int .u64 0, .int .u64 0, .int .i64 0, .int .i64 0, .int .i64 0, .slice none 0 0], .int .i64 0, .bool false]) ∧ Below W.heap.size W w'))
    (wa : Option Addr) (wn wc : Nat)
    (HQ : Hid (∀ W, Below w.heap.size w W → Calls Tryz.prog 15 #[.slice wa wn wc] W fun e w' => e = .returned (.tuple #[.agg #[.string ⟨#[]⟩, .int .u64 0, .int .u64 0, .int .u64 0, .int .u64 0, .int .i64 0, .int .i64 0, .int .i64 0, .slice none 0 0], .bool false]) ∧ Below W.heap.size W w'))
    (HX : Hid (Calls Tryz.prog 9 #[] w fun e w' => e = .returned (.bool true) ∧ Below w.heap.size w w')) :
    Calls Tryz.prog 7 #[.string s, .int .i64 p, .slice wa wn wc] w fun e w' => e = .returned (.bool true) ∧ Below w.heap.size w w' := by
  have HSn := Lib.hid walk_same
  unfold zero9 val9 at HSn
  go_enter Tryz.func7, Tryz.ntmps7
  go_wp2_with fail
  with_reducible refine HX.out.mono ?_
  rintro e w1 ⟨rfl, b1⟩
  go_wp2_with fail
  with_reducible refine (HG.out _ b1).mono ?_
  rintro e w2 ⟨rfl, k2⟩
  have b2 := grows b1 k2
  clear b1 k2
  go_upto_region 5 with fail
  obtain ⟨B, hB⟩ : ∃ B, B = w2.heap.size := ⟨_, rfl⟩
  have hx := heap_alloc_new w2 (box9 ⟨#[]⟩ 0 0 0 0 0 0 0 (.slice none 0 0))
  have b3 := grows b2 (grew w2 (box9 ⟨#[]⟩ 0 0 0 0 0 0 0 (.slice none 0 0)))
  rw [← hB] at hx ⊢
  unfold box9 at hx b3
  generalize w2.alloc _ = w3 at hx b3 ⊢
  clear b2 hB
  have HX3 := Lib.hid hx
  clear hx
  go_wp2_with fail
  with_reducible refine (HQ.out _ b3).mono ?_
  rintro e w4 ⟨rfl, k4⟩
  have b4 := grows b3 k4
  go_upto_region 6 with fail
  have k5 := grows k4 (grew w4 (box9 ⟨#[]⟩ 0 0 0 0 0 0 0 (.slice none 0 0)))
  obtain ⟨D, hD⟩ : ∃ B, B = w4.heap.size := ⟨_, rfl⟩
  have hy := heap_alloc_new w4 (box9 ⟨#[]⟩ 0 0 0 0 0 0 0 (.slice none 0 0))
  have b5 := grows b4 (grew w4 (box9 ⟨#[]⟩ 0 0 0 0 0 0 0 (.slice none 0 0)))
  rw [← hD] at hy ⊢
  unfold box9 at hy b5 k5
  generalize w4.alloc _ = w5 at hy b5 k5 ⊢
  have hx5 := (k5.block _ (Array.getElem?_eq_some_iff.1 HX3.out).1).trans HX3.out
  have HY5 := Lib.hid hy
  have HX5 := Lib.hid hx5
  clear hy hx5 b4 k4 k5 b3 hD HX3 HG HQ
  refine Quiet.region (by kernel_rfl) (by kernel_rfl) ?_
  repeat (go_big_quiet_step (fail))
  refine wpQuiet_nil ?_
  rintro _ ⟨pq, rfl⟩
  have hq := pq.below
  generalize pq.world = w6 at hq ⊢
  have b6 := grows b5 hq
  have HY6 := Lib.hid ((hq.block _ (Array.getElem?_eq_some_iff.1 HY5.out).1).trans HY5.out)
  clear hq HY5 HX5 b5
  obtain ⟨⟨c0, c1, c2, c3, c4, c5, c6, c7, c8⟩, _⟩ := cells9 HY6.out
  go_wp2_with fail
  with_reducible refine (HSn.out _).mono ?_
  rintro e w7 ⟨rfl, k7⟩
  go_wp2
  go_ret
  exact ⟨rfl, grows b6 k7⟩
set_option maxHeartbeats 4000000 in
set_option maxRecDepth 100000 in
theorem walk_ns (s : ByteArray) (w : World)
    (p : Int)
    (HG : Hid (∀ W, Below w.heap.size w W → Calls Tryz.prog 13 #[.string s, .int .i64 p] W fun e w' => e = .returned (.tuple #[.agg #[.string ⟨#[]⟩, .int .u64 0, .int .u64 0, .int .u64 0, .int .u64 0, .int .i64 0, .int .i64 0, .int .i64 0, .slice none 0 0], .int .i64 0, .bool false]) ∧ Below W.heap.size W w'))
    (G O cap : Nat) (F X : Nat → ByteArray) (hG : G < w.heap.size) (HW : Hid (∀ i, i < 6 → w.cell? ⟨G, O + i, none⟩ = some (.string (X i)))) (H0 : Hid (F 0 = ⟨#[]⟩)) (HF : Hid (∀ i, F (i + 1) = (if 0 < i then F i ++ ⟨#[32]⟩ else F i) ++ X i)) (HZ : Hid (∀ i, i < 6 → (F i).size ≤ 1400 ∧ (X i).size ≤ 1400))
    (py : ByteArray) (y0 y1 y2 y3 nn mm kk : Int) (tt : List Tm) (TX : ByteArray) (hTX : (TX.toList == (F 6).toList) = true)
    (HD : Hid (∀ u W, TRow W u tt → Calls Tryz.prog 19 #[.agg #[.string py, .int .u64 y0, .int .u64 y1, .int .u64 y2, .int .u64 y3, .int .i64 nn, .int .i64 mm, .int .i64 kk, u]] W fun e w' => e = .returned (.int .i64 0) ∧ Below W.heap.size W w'))
    (HT : Hid (∀ u W, Below w.heap.size w W → TRow W u tt → Calls Tryz.prog 24 #[.agg #[.string py, .int .u64 y0, .int .u64 y1, .int .u64 y2, .int .u64 y3, .int .i64 nn, .int .i64 mm, .int .i64 kk, u]] W fun e w' => e = .returned (.string TX) ∧ Below W.heap.size W w'))
    (HQ : Hid (∀ W, Below w.heap.size w W → Calls Tryz.prog 15 #[.slice (some ⟨G, O, none⟩) 6 cap] W fun e w' => (∃ u, e = .returned (.tuple #[.agg #[.string py, .int .u64 y0, .int .u64 y1, .int .u64 y2, .int .u64 y3, .int .i64 nn, .int .i64 mm, .int .i64 kk, u], .bool true]) ∧ TRow w' u tt) ∧ Below W.heap.size W w'))
    (HX : Hid (Calls Tryz.prog 9 #[] w fun e w' => e = .returned (.bool true) ∧ Below w.heap.size w w')) :
    Calls Tryz.prog 7 #[.string s, .int .i64 p, .slice (some ⟨G, O, none⟩) 6 cap] w fun e w' => e = .returned (.bool true) ∧ Below w.heap.size w w' := by
  go_enter Tryz.func7, Tryz.ntmps7
  go_wp2_with fail
  with_reducible refine HX.out.mono ?_
  rintro e w1 ⟨rfl, b1⟩
  go_wp2_with fail
  with_reducible refine (HG.out _ b1).mono ?_
  rintro e w2 ⟨rfl, k2⟩
  have b2 := grows b1 k2
  clear b1 k2
  go_upto_region 5 with fail
  obtain ⟨B, hB⟩ : ∃ B, B = w2.heap.size := ⟨_, rfl⟩
  have hx := heap_alloc_new w2 (box9 ⟨#[]⟩ 0 0 0 0 0 0 0 (.slice none 0 0))
  have b3 := grows b2 (grew w2 (box9 ⟨#[]⟩ 0 0 0 0 0 0 0 (.slice none 0 0)))
  rw [← hB] at hx ⊢
  unfold box9 at hx b3
  generalize w2.alloc _ = w3 at hx b3 ⊢
  clear b2 hB
  have HX3 := Lib.hid hx
  clear hx
  go_wp2_with fail
  with_reducible refine (HQ.out _ b3).mono ?_
  rintro e w4 ⟨⟨v, rfl, hv⟩, k4⟩
  obtain ⟨va, vc, rfl, _, _⟩ := hv.slice
  have b4 := grows b3 k4
  go_upto_region 6 with fail
  have k5 := grows k4 (grew w4 (box9 py y0 y1 y2 y3 nn mm kk (.slice va tt.length vc)))
  obtain ⟨D, hD⟩ : ∃ B, B = w4.heap.size := ⟨_, rfl⟩
  have hy := heap_alloc_new w4 (box9 py y0 y1 y2 y3 nn mm kk (.slice va tt.length vc))
  have b5 := grows b4 (grew w4 (box9 py y0 y1 y2 y3 nn mm kk (.slice va tt.length vc)))
  have hv5 : TRow (w4.alloc (box9 py y0 y1 y2 y3 nn mm kk (.slice va tt.length vc))) (.slice va tt.length vc) tt := hv.below (grew w4 _)
  clear hv
  rw [← hD] at hy ⊢
  unfold box9 at hy b5 k5 hv5
  generalize w4.alloc _ = w5 at hy b5 k5 hv5 ⊢
  have hx5 := (k5.block _ (Array.getElem?_eq_some_iff.1 HX3.out).1).trans HX3.out
  have HY5 := Lib.hid hy
  have HX5 := Lib.hid hx5
  have HV5 := Lib.hid hv5
  clear hv5
  clear hy hx5 b4 k4 k5 b3 hD HX3 HG HQ
  refine Quiet.region (by kernel_rfl) (by kernel_rfl) ?_
  repeat (go_big_quiet_step (fail))
  refine wpQuiet_nil ?_
  rintro _ ⟨pq, rfl⟩
  have hq := pq.below
  generalize pq.world = w6 at hq ⊢
  have b6 := grows b5 hq
  have HY6 := Lib.hid ((hq.block _ (Array.getElem?_eq_some_iff.1 HY5.out).1).trans HY5.out)
  have HV6 := Lib.hid (HV5.out.below hq)
  clear HV5
  clear hq HY5 HX5 b5
  have HB6 := Lib.hid b6
  go_wp2_with fail
  go_loopw [13, 14] (fun t i wr => ∃ j : Nat, j ≤ 6 ∧ i = .int .i64 j ∧ t = .string (F j) ∧ wr = w6) (fun _ i _ => 6 - (intOf i).toNat)
  case atStart => exact ⟨0, Nat.zero_le _, rfl, by rw [H0.out], rfl⟩
  case round =>
    obtain ⟨j, hj, rfl, rfl, hwr⟩ := hrel
    subst wr
    by_cases hlt : j < 6
    · have hltz : (j : Int) < 6 := by omega
      have hj0 : (0 : Int) ≤ (j : Int) := by omega
      have hcw : w6.cell? ⟨G, O + j, none⟩ = some (.string (X j)) := (HB6.out.cell (p := ⟨G, O + j, none⟩) hG).trans (HW.out j hlt)
      obtain ⟨z1, z2⟩ := HZ.out j hlt
      by_cases hpos : 0 < j
      · have hposz : (0 : Int) < (j : Int) := by omega
        have hf := HF.out j
        rw [if_pos hpos] at hf
        have add1 : ∀ w, Sem.run Tryz.prog (Op.stringOp .add (F j) ⟨#[32]⟩) w = .ok (.string (F j ++ ⟨#[32]⟩)) w := fun w => run_string_add_sum w _ _ (by have : (⟨#[32]⟩ : ByteArray).size = 1 := rfl; omega)
        have add2 : ∀ w, Sem.run Tryz.prog (Op.stringOp .add (F j ++ ⟨#[32]⟩) (X j)) w = .ok (.string (F (j + 1))) w := fun w => by rw [hf]; exact run_string_add_sum w _ _ (by rw [size_app]; have : (⟨#[32]⟩ : ByteArray).size = 1 := rfl; omega)
        have Hf := Lib.hid hf
        clear hf hpos z1 z2
        go_wp2
        go_roundw
        case rel => exact ⟨j + 1, by omega, by go_num, rfl, by first | rfl | trivial⟩
        case measure => simp [intOf]; omega
      · have hposz : ¬ (0 : Int) < (j : Int) := by omega
        have hf := HF.out j
        rw [if_neg hpos] at hf
        have add2 : ∀ w, Sem.run Tryz.prog (Op.stringOp .add (F j) (X j)) w = .ok (.string (F (j + 1))) w := fun w => by rw [hf]; exact run_string_add_sum w _ _ (by omega)
        have Hf := Lib.hid hf
        clear hf hpos z1 z2
        go_wp2
        go_roundw
        case rel => exact ⟨j + 1, by omega, by go_num, rfl, by first | rfl | trivial⟩
        case measure => simp [intOf]; omega
    · have hj6 : j = 6 := by omega
      subst hj6
      obtain ⟨⟨c0, c1, c2, c3, c4, c5, c6, c7, c8⟩, _⟩ := cells9 HY6.out
      go_wp2_with fail
      with_reducible refine (HD.out _ _ HV6.out).mono ?_
      rintro e w7 ⟨rfl, k7⟩
      have HV7 := Lib.hid (HV6.out.below k7)
      have HY7 := Lib.hid ((k7.block _ (Array.getElem?_eq_some_iff.1 HY6.out).1).trans HY6.out)
      have b7 := grows HB6.out k7
      clear k7 c0 c1 c2 c3 c4 c5 c6 c7 c8
      obtain ⟨⟨c0, c1, c2, c3, c4, c5, c6, c7, c8⟩, _⟩ := cells9 HY7.out
      go_wp2_with fail
      with_reducible refine (HT.out _ _ b7 HV7.out).mono ?_
      rintro e w8 ⟨rfl, k8⟩
      go_wp2
      go_ret
      exact ⟨rfl, grows b7 k8⟩
set_option maxHeartbeats 4000000 in
set_option maxRecDepth 100000 in
theorem walk_sn (s : ByteArray) (w : World)
    (a b : Nat) (hab : (a : Int) ≤ (b : Int)) (hbs : (b : Int) ≤ (s.size : Int)) (px : ByteArray) (a0 a1 a2 a3 n m k : Int) (ts : List Tm) (PX : ByteArray) (hPX : (PX.toList == (s.extract a b).toList) = true)
    (HC : Hid (∀ u W, TRow W u ts → Calls Tryz.prog 19 #[.agg #[.string px, .int .u64 a0, .int .u64 a1, .int .u64 a2, .int .u64 a3, .int .i64 n, .int .i64 m, .int .i64 k, u]] W fun e w' => e = .returned (.int .i64 0) ∧ Below W.heap.size W w'))
    (HP : Hid (∀ u W, TRow W u ts → Calls Tryz.prog 22 #[.agg #[.string px, .int .u64 a0, .int .u64 a1, .int .u64 a2, .int .u64 a3, .int .i64 n, .int .i64 m, .int .i64 k, u]] W fun e w' => e = .returned (.string PX) ∧ Below W.heap.size W w'))
    (HG : Hid (∀ W, Below w.heap.size w W → Calls Tryz.prog 13 #[.string s, .int .i64 (a : Int)] W fun e w' => (∃ u, e = .returned (.tuple #[.agg #[.string px, .int .u64 a0, .int .u64 a1, .int .u64 a2, .int .u64 a3, .int .i64 n, .int .i64 m, .int .i64 k, u], .int .i64 b, .bool true]) ∧ TRow w' u ts) ∧ Below W.heap.size W w'))
    (wa : Option Addr) (wn wc : Nat)
    (HQ : Hid (∀ W, Below w.heap.size w W → Calls Tryz.prog 15 #[.slice wa wn wc] W fun e w' => e = .returned (.tuple #[.agg #[.string ⟨#[]⟩, .int .u64 0, .int .u64 0, .int .u64 0, .int .u64 0, .int .i64 0, .int .i64 0, .int .i64 0, .slice none 0 0], .bool false]) ∧ Below W.heap.size W w'))
    (HX : Hid (Calls Tryz.prog 9 #[] w fun e w' => e = .returned (.bool true) ∧ Below w.heap.size w w')) :
    Calls Tryz.prog 7 #[.string s, .int .i64 (a : Int), .slice wa wn wc] w fun e w' => e = .returned (.bool true) ∧ Below w.heap.size w w' := by
  have HSn := Lib.hid walk_same
  unfold zero9 val9 at HSn
  go_enter Tryz.func7, Tryz.ntmps7
  go_wp2_with fail
  with_reducible refine HX.out.mono ?_
  rintro e w1 ⟨rfl, b1⟩
  go_wp2_with fail
  with_reducible refine (HG.out _ b1).mono ?_
  rintro e w2 ⟨⟨u, rfl, hu⟩, k2⟩
  obtain ⟨ua, uc, rfl, _, _⟩ := hu.slice
  have b2 := grows b1 k2
  clear b1 k2
  go_upto_region 5 with fail
  obtain ⟨B, hB⟩ : ∃ B, B = w2.heap.size := ⟨_, rfl⟩
  have hx := heap_alloc_new w2 (box9 px a0 a1 a2 a3 n m k (.slice ua ts.length uc))
  have b3 := grows b2 (grew w2 (box9 px a0 a1 a2 a3 n m k (.slice ua ts.length uc)))
  have hu3 : TRow (w2.alloc (box9 px a0 a1 a2 a3 n m k (.slice ua ts.length uc))) (.slice ua ts.length uc) ts := hu.below (grew w2 _)
  clear hu
  rw [← hB] at hx ⊢
  unfold box9 at hx b3 hu3
  generalize w2.alloc _ = w3 at hx b3 hu3 ⊢
  clear b2 hB
  have HX3 := Lib.hid hx
  clear hx
  have HU3 := Lib.hid hu3
  clear hu3
  go_wp2_with fail
  with_reducible refine (HQ.out _ b3).mono ?_
  rintro e w4 ⟨rfl, k4⟩
  have b4 := grows b3 k4
  go_upto_region 6 with fail
  have k5 := grows k4 (grew w4 (box9 ⟨#[]⟩ 0 0 0 0 0 0 0 (.slice none 0 0)))
  obtain ⟨D, hD⟩ : ∃ B, B = w4.heap.size := ⟨_, rfl⟩
  have hy := heap_alloc_new w4 (box9 ⟨#[]⟩ 0 0 0 0 0 0 0 (.slice none 0 0))
  have b5 := grows b4 (grew w4 (box9 ⟨#[]⟩ 0 0 0 0 0 0 0 (.slice none 0 0)))
  rw [← hD] at hy ⊢
  unfold box9 at hy b5 k5
  generalize w4.alloc _ = w5 at hy b5 k5 ⊢
  have hx5 := (k5.block _ (Array.getElem?_eq_some_iff.1 HX3.out).1).trans HX3.out
  have HY5 := Lib.hid hy
  have HX5 := Lib.hid hx5
  have HU5 := Lib.hid (HU3.out.below k5)
  clear HU3
  clear hy hx5 b4 k4 k5 b3 hD HX3 HG HQ
  have d1 : decide ((a : Int) < 0) = false := decide_eq_false (by omega)
  have d2 : decide (s.size < b) = false := decide_eq_false (by omega)
  have hp0 : (0 : Int) ≤ (a : Int) := by omega
  obtain ⟨⟨c0, c1, c2, c3, c4, c5, c6, c7, c8⟩, _⟩ := cells9 HX5.out
  have lA := (Array.getElem?_eq_some_iff.1 HX5.out).1
  have C0 := Quiet.cell lA c0
  have C1 := Quiet.cell lA c1
  have C2 := Quiet.cell lA c2
  have C3 := Quiet.cell lA c3
  have C4 := Quiet.cell lA c4
  have C5 := Quiet.cell lA c5
  have C6 := Quiet.cell lA c6
  have C7 := Quiet.cell lA c7
  have C8 := Quiet.cell lA c8
  clear lA c0 c1 c2 c3 c4 c5 c6 c7 c8
  refine Quiet.region (by kernel_rfl) (by kernel_rfl) ?_
  repeat (go_big_quiet_step ((first | (go_at_call 19; (with_reducible exact Quiet.calls (HC.out _ _ (HU5.out.below (Quiet.Behind.below _))))) | (go_at_call 22; (with_reducible exact Quiet.calls (HP.out _ _ (HU5.out.below (Quiet.Behind.below _))))))))
  refine wpQuiet_nil ?_
  rintro _ ⟨pq, rfl⟩
  have hq := pq.below
  generalize pq.world = w6 at hq ⊢
  have b6 := grows b5 hq
  have HY6 := Lib.hid ((hq.block _ (Array.getElem?_eq_some_iff.1 HY5.out).1).trans HY5.out)
  clear hq HY5 HX5 b5 C0 C1 C2 C3 C4 C5 C6 C7 C8 d1 d2 hp0
  obtain ⟨⟨c0, c1, c2, c3, c4, c5, c6, c7, c8⟩, _⟩ := cells9 HY6.out
  go_wp2_with fail
  with_reducible refine (HSn.out _).mono ?_
  rintro e w7 ⟨rfl, k7⟩
  go_wp2
  go_ret
  exact ⟨rfl, grows b6 k7⟩
set_option maxHeartbeats 4000000 in
set_option maxRecDepth 100000 in
theorem walk_ss (s : ByteArray) (w : World)
    (a b : Nat) (hab : (a : Int) ≤ (b : Int)) (hbs : (b : Int) ≤ (s.size : Int)) (px : ByteArray) (a0 a1 a2 a3 n m k : Int) (ts : List Tm) (PX : ByteArray) (hPX : (PX.toList == (s.extract a b).toList) = true)
    (HC : Hid (∀ u W, TRow W u ts → Calls Tryz.prog 19 #[.agg #[.string px, .int .u64 a0, .int .u64 a1, .int .u64 a2, .int .u64 a3, .int .i64 n, .int .i64 m, .int .i64 k, u]] W fun e w' => e = .returned (.int .i64 0) ∧ Below W.heap.size W w'))
    (HP : Hid (∀ u W, TRow W u ts → Calls Tryz.prog 22 #[.agg #[.string px, .int .u64 a0, .int .u64 a1, .int .u64 a2, .int .u64 a3, .int .i64 n, .int .i64 m, .int .i64 k, u]] W fun e w' => e = .returned (.string PX) ∧ Below W.heap.size W w'))
    (HG : Hid (∀ W, Below w.heap.size w W → Calls Tryz.prog 13 #[.string s, .int .i64 (a : Int)] W fun e w' => (∃ u, e = .returned (.tuple #[.agg #[.string px, .int .u64 a0, .int .u64 a1, .int .u64 a2, .int .u64 a3, .int .i64 n, .int .i64 m, .int .i64 k, u], .int .i64 b, .bool true]) ∧ TRow w' u ts) ∧ Below W.heap.size W w'))
    (G O cap : Nat) (F X : Nat → ByteArray) (hG : G < w.heap.size) (HW : Hid (∀ i, i < 6 → w.cell? ⟨G, O + i, none⟩ = some (.string (X i)))) (H0 : Hid (F 0 = ⟨#[]⟩)) (HF : Hid (∀ i, F (i + 1) = (if 0 < i then F i ++ ⟨#[32]⟩ else F i) ++ X i)) (HZ : Hid (∀ i, i < 6 → (F i).size ≤ 1400 ∧ (X i).size ≤ 1400))
    (py : ByteArray) (y0 y1 y2 y3 nn mm kk : Int) (tt : List Tm) (TX : ByteArray) (hTX : (TX.toList == (F 6).toList) = true)
    (HD : Hid (∀ u W, TRow W u tt → Calls Tryz.prog 19 #[.agg #[.string py, .int .u64 y0, .int .u64 y1, .int .u64 y2, .int .u64 y3, .int .i64 nn, .int .i64 mm, .int .i64 kk, u]] W fun e w' => e = .returned (.int .i64 0) ∧ Below W.heap.size W w'))
    (HT : Hid (∀ u W, Below w.heap.size w W → TRow W u tt → Calls Tryz.prog 24 #[.agg #[.string py, .int .u64 y0, .int .u64 y1, .int .u64 y2, .int .u64 y3, .int .i64 nn, .int .i64 mm, .int .i64 kk, u]] W fun e w' => e = .returned (.string TX) ∧ Below W.heap.size W w'))
    (HQ : Hid (∀ W, Below w.heap.size w W → Calls Tryz.prog 15 #[.slice (some ⟨G, O, none⟩) 6 cap] W fun e w' => (∃ u, e = .returned (.tuple #[.agg #[.string py, .int .u64 y0, .int .u64 y1, .int .u64 y2, .int .u64 y3, .int .i64 nn, .int .i64 mm, .int .i64 kk, u], .bool true]) ∧ TRow w' u tt) ∧ Below W.heap.size W w'))
    (HX : Hid (Calls Tryz.prog 9 #[] w fun e w' => e = .returned (.bool true) ∧ Below w.heap.size w w')) :
    Calls Tryz.prog 7 #[.string s, .int .i64 (a : Int), .slice (some ⟨G, O, none⟩) 6 cap] w fun e w' => e = .returned (.bool true) ∧ Below w.heap.size w w' := by
  go_enter Tryz.func7, Tryz.ntmps7
  go_wp2_with fail
  with_reducible refine HX.out.mono ?_
  rintro e w1 ⟨rfl, b1⟩
  go_wp2_with fail
  with_reducible refine (HG.out _ b1).mono ?_
  rintro e w2 ⟨⟨u, rfl, hu⟩, k2⟩
  obtain ⟨ua, uc, rfl, _, _⟩ := hu.slice
  have b2 := grows b1 k2
  clear b1 k2
  go_upto_region 5 with fail
  obtain ⟨B, hB⟩ : ∃ B, B = w2.heap.size := ⟨_, rfl⟩
  have hx := heap_alloc_new w2 (box9 px a0 a1 a2 a3 n m k (.slice ua ts.length uc))
  have b3 := grows b2 (grew w2 (box9 px a0 a1 a2 a3 n m k (.slice ua ts.length uc)))
  have hu3 : TRow (w2.alloc (box9 px a0 a1 a2 a3 n m k (.slice ua ts.length uc))) (.slice ua ts.length uc) ts := hu.below (grew w2 _)
  clear hu
  rw [← hB] at hx ⊢
  unfold box9 at hx b3 hu3
  generalize w2.alloc _ = w3 at hx b3 hu3 ⊢
  clear b2 hB
  have HX3 := Lib.hid hx
  clear hx
  have HU3 := Lib.hid hu3
  clear hu3
  go_wp2_with fail
  with_reducible refine (HQ.out _ b3).mono ?_
  rintro e w4 ⟨⟨v, rfl, hv⟩, k4⟩
  obtain ⟨va, vc, rfl, _, _⟩ := hv.slice
  have b4 := grows b3 k4
  go_upto_region 6 with fail
  have k5 := grows k4 (grew w4 (box9 py y0 y1 y2 y3 nn mm kk (.slice va tt.length vc)))
  obtain ⟨D, hD⟩ : ∃ B, B = w4.heap.size := ⟨_, rfl⟩
  have hy := heap_alloc_new w4 (box9 py y0 y1 y2 y3 nn mm kk (.slice va tt.length vc))
  have b5 := grows b4 (grew w4 (box9 py y0 y1 y2 y3 nn mm kk (.slice va tt.length vc)))
  have hv5 : TRow (w4.alloc (box9 py y0 y1 y2 y3 nn mm kk (.slice va tt.length vc))) (.slice va tt.length vc) tt := hv.below (grew w4 _)
  clear hv
  rw [← hD] at hy ⊢
  unfold box9 at hy b5 k5 hv5
  generalize w4.alloc _ = w5 at hy b5 k5 hv5 ⊢
  have hx5 := (k5.block _ (Array.getElem?_eq_some_iff.1 HX3.out).1).trans HX3.out
  have HY5 := Lib.hid hy
  have HX5 := Lib.hid hx5
  have HU5 := Lib.hid (HU3.out.below k5)
  clear HU3
  have HV5 := Lib.hid hv5
  clear hv5
  clear hy hx5 b4 k4 k5 b3 hD HX3 HG HQ
  have d1 : decide ((a : Int) < 0) = false := decide_eq_false (by omega)
  have d2 : decide (s.size < b) = false := decide_eq_false (by omega)
  have hp0 : (0 : Int) ≤ (a : Int) := by omega
  obtain ⟨⟨c0, c1, c2, c3, c4, c5, c6, c7, c8⟩, _⟩ := cells9 HX5.out
  have lA := (Array.getElem?_eq_some_iff.1 HX5.out).1
  have C0 := Quiet.cell lA c0
  have C1 := Quiet.cell lA c1
  have C2 := Quiet.cell lA c2
  have C3 := Quiet.cell lA c3
  have C4 := Quiet.cell lA c4
  have C5 := Quiet.cell lA c5
  have C6 := Quiet.cell lA c6
  have C7 := Quiet.cell lA c7
  have C8 := Quiet.cell lA c8
  clear lA c0 c1 c2 c3 c4 c5 c6 c7 c8
  refine Quiet.region (by kernel_rfl) (by kernel_rfl) ?_
  repeat (go_big_quiet_step ((first | (go_at_call 19; (with_reducible exact Quiet.calls (HC.out _ _ (HU5.out.below (Quiet.Behind.below _))))) | (go_at_call 22; (with_reducible exact Quiet.calls (HP.out _ _ (HU5.out.below (Quiet.Behind.below _))))))))
  refine wpQuiet_nil ?_
  rintro _ ⟨pq, rfl⟩
  have hq := pq.below
  generalize pq.world = w6 at hq ⊢
  have b6 := grows b5 hq
  have HY6 := Lib.hid ((hq.block _ (Array.getElem?_eq_some_iff.1 HY5.out).1).trans HY5.out)
  have HV6 := Lib.hid (HV5.out.below hq)
  clear HV5
  clear hq HY5 HX5 b5 C0 C1 C2 C3 C4 C5 C6 C7 C8 d1 d2 hp0
  have HB6 := Lib.hid b6
  go_wp2_with fail
  go_loopw [13, 14] (fun t i wr => ∃ j : Nat, j ≤ 6 ∧ i = .int .i64 j ∧ t = .string (F j) ∧ wr = w6) (fun _ i _ => 6 - (intOf i).toNat)
  case atStart => exact ⟨0, Nat.zero_le _, rfl, by rw [H0.out], rfl⟩
  case round =>
    obtain ⟨j, hj, rfl, rfl, hwr⟩ := hrel
    subst wr
    by_cases hlt : j < 6
    · have hltz : (j : Int) < 6 := by omega
      have hj0 : (0 : Int) ≤ (j : Int) := by omega
      have hcw : w6.cell? ⟨G, O + j, none⟩ = some (.string (X j)) := (HB6.out.cell (p := ⟨G, O + j, none⟩) hG).trans (HW.out j hlt)
      obtain ⟨z1, z2⟩ := HZ.out j hlt
      by_cases hpos : 0 < j
      · have hposz : (0 : Int) < (j : Int) := by omega
        have hf := HF.out j
        rw [if_pos hpos] at hf
        have add1 : ∀ w, Sem.run Tryz.prog (Op.stringOp .add (F j) ⟨#[32]⟩) w = .ok (.string (F j ++ ⟨#[32]⟩)) w := fun w => run_string_add_sum w _ _ (by have : (⟨#[32]⟩ : ByteArray).size = 1 := rfl; omega)
        have add2 : ∀ w, Sem.run Tryz.prog (Op.stringOp .add (F j ++ ⟨#[32]⟩) (X j)) w = .ok (.string (F (j + 1))) w := fun w => by rw [hf]; exact run_string_add_sum w _ _ (by rw [size_app]; have : (⟨#[32]⟩ : ByteArray).size = 1 := rfl; omega)
        have Hf := Lib.hid hf
        clear hf hpos z1 z2
        go_wp2
        go_roundw
        case rel => exact ⟨j + 1, by omega, by go_num, rfl, by first | rfl | trivial⟩
        case measure => simp [intOf]; omega
      · have hposz : ¬ (0 : Int) < (j : Int) := by omega
        have hf := HF.out j
        rw [if_neg hpos] at hf
        have add2 : ∀ w, Sem.run Tryz.prog (Op.stringOp .add (F j) (X j)) w = .ok (.string (F (j + 1))) w := fun w => by rw [hf]; exact run_string_add_sum w _ _ (by omega)
        have Hf := Lib.hid hf
        clear hf hpos z1 z2
        go_wp2
        go_roundw
        case rel => exact ⟨j + 1, by omega, by go_num, rfl, by first | rfl | trivial⟩
        case measure => simp [intOf]; omega
    · have hj6 : j = 6 := by omega
      subst hj6
      obtain ⟨⟨c0, c1, c2, c3, c4, c5, c6, c7, c8⟩, _⟩ := cells9 HY6.out
      go_wp2_with fail
      with_reducible refine (HD.out _ _ HV6.out).mono ?_
      rintro e w7 ⟨rfl, k7⟩
      have HV7 := Lib.hid (HV6.out.below k7)
      have HY7 := Lib.hid ((k7.block _ (Array.getElem?_eq_some_iff.1 HY6.out).1).trans HY6.out)
      have b7 := grows HB6.out k7
      clear k7 c0 c1 c2 c3 c4 c5 c6 c7 c8
      obtain ⟨⟨c0, c1, c2, c3, c4, c5, c6, c7, c8⟩, _⟩ := cells9 HY7.out
      go_wp2_with fail
      with_reducible refine (HT.out _ _ b7 HV7.out).mono ?_
      rintro e w8 ⟨rfl, k8⟩
      go_wp2
      go_ret
      exact ⟨rfl, grows b7 k8⟩

theorem walk (s : ByteArray) (hs : s.size ≤ 140737488351232) (p : Int) (_ : -9223372036854775808 ≤ p) (_ : p ≤ 9223372036854775807) (v : Value) (ws : List ByteArray) (_ : ws.length * 16 ≤ 140737488351232) (hz : ∀ x ∈ ws, x.size ≤ 140737488351232) (w : World) (hR : Roots w) (hv : SRow w v ws) :
    Calls Tryz.prog 7 #[.string s, .int .i64 p, v] w fun e w' => e = .returned (.bool true) ∧ Below w.heap.size w w' := by
  have HX := Lib.hid (examples_any w hR)
  have HG : ∀ W, Below w.heap.size w W → Calls Tryz.prog 13 #[.string s, .int .i64 p] W (TellsJG (getJ s p) W) := fun W h => get_jb s (by omega) p W (hR.err.below h)
  have HQ : ∀ W, Below w.heap.size w W → Calls Tryz.prog 15 #[v] W (TellsJP (parseJ ws) W) := fun W h => parse_jb ws v W (hv.below h) (fun x hx => by have := hz x hx; omega) (hR.below h)
  have CK : ∀ x, checkJ x = 0 → FairJ x → ∀ u W, TRow W u (terms x) → Calls Tryz.prog 19 #[valJ x u] W fun e w' => e = .returned (.int .i64 0) ∧ Below W.heap.size W w' := fun x hc hf u W h => by
    have := check_any x u W hf h
    rwa [hc] at this
  have q : ∀ x, parseJ ws = some x → ∃ (G O cap : Nat), v = .slice (some ⟨G, O, none⟩) 6 cap ∧ G < w.heap.size ∧ Hid (∀ i, i < 6 → w.cell? ⟨G, O + i, none⟩ = some (.string (ws.getD i ⟨#[]⟩))) ∧ Hid (∀ i, i < 6 → (acc (fun i => ws.getD i ⟨#[]⟩) i).size ≤ 1400 ∧ (ws.getD i ⟨#[]⟩).size ≤ 1400) ∧ acc (fun i => ws.getD i ⟨#[]⟩) 6 = textJ x ∧ FairJ x := fun x hx => by
    obtain ⟨hc, hw⟩ := parseJ_back hx
    have hfx : FairJ x := by
      unfold parseJ at hx
      split at hx
      · cases hx
      · rename_i y hy
        split at hx
        · injection hx with hx
          subst hx
          exact (parseF_parts (fun x hx => by have := hz x hx; omega) hy).1
        · cases hx
    have h6 : ws.length = 6 := by rw [← hw]; rfl
    have ht : acc (fun i => ws.getD i ⟨#[]⟩) 6 = textJ x := by rw [← hw]; exact acc_text hc
    have hsm := textJ_small hfx hc
    have hts : (textJ x).size ≤ 1300 := by
      unfold textJ
      rw [if_pos hc, size_str]
      exact hsm
    obtain ⟨a, cap, rfl, _, _⟩ := hv.slice
    obtain ⟨G, O, rfl, hG, hcell⟩ := hv.cells (k := 0) (by omega)
    rw [← ht] at hts
    refine ⟨G, O, cap, by rw [h6], hG, Lib.hid fun i hi => ?_, Lib.hid fun i hi => ?_, ht, hfx⟩
    · refine hcell i _ ?_
      rw [List.getD_eq_getElem?_getD, List.getElem?_eq_getElem (by omega)]
      rfl
    · exact acc_small _ (by omega) i hi
  have gg : ∀ x n, getJ s p = some (x, n) → ∃ a b : Nat, p = (a : Int) ∧ n = (b : Int) ∧ (a : Int) ≤ (b : Int) ∧ (b : Int) ≤ (s.size : Int) ∧ ((putJ x).toList == (s.extract a b).toList) = true ∧ checkJ x = 0 ∧ FairJ x := fun x n h => by
    obtain ⟨hc, hf, a, b, e1, e2, e3, e4, e5⟩ := getJ_back h
    exact ⟨a, b, e1, e2, by omega, by rw [size_list] at e4; omega, by rw [extract_put e3 e4 e5]; simp, hc, hf⟩
  unfold TellsJG at HG
  unfold TellsJP at HQ
  cases hg : getJ s p with
  | none =>
    rw [hg] at HG
    cases hq : parseJ ws with
    | none =>
      rw [hq] at HQ
      obtain ⟨a, cap, rfl, _, _⟩ := hv.slice
      exact walk_nn s w p (Lib.hid HG) a ws.length cap (Lib.hid HQ) HX
    | some y =>
      rw [hq] at HQ
      obtain ⟨G, O, cap, rfl, hG, hW, hZ, hT, hfy⟩ := q y hq
      have hc := (parseJ_back hq).1
      exact walk_ns s w p (Lib.hid HG) G O cap (acc (fun i => ws.getD i ⟨#[]⟩)) (fun i => ws.getD i ⟨#[]⟩) hG hW (Lib.hid rfl) (Lib.hid fun _ => rfl) hZ _ _ _ _ _ _ _ _ (terms y) (textJ y) (by rw [hT]; simp) (Lib.hid (CK y hc hfy)) (Lib.hid fun u W h hu => text_jb y u W hfy hu (hR.tab.below h)) (Lib.hid HQ) HX
  | some x =>
    obtain ⟨x, n⟩ := x
    rw [hg] at HG
    obtain ⟨a, b, rfl, rfl, g1, g2, g3, hcx, hfx⟩ := gg x n hg
    cases hq : parseJ ws with
    | none =>
      rw [hq] at HQ
      obtain ⟨wa, cap, rfl, _, _⟩ := hv.slice
      exact walk_sn s w a b g1 g2 _ _ _ _ _ _ _ _ (terms x) (putJ x) g3 (Lib.hid (CK x hcx hfx)) (Lib.hid fun u W hu => put_jb x u W hfx hu) (Lib.hid HG) wa ws.length cap (Lib.hid HQ) HX
    | some y =>
      rw [hq] at HQ
      obtain ⟨G, O, cap, rfl, hG, hW, hZ, hT, hfy⟩ := q y hq
      have hc := (parseJ_back hq).1
      exact walk_ss s w a b g1 g2 _ _ _ _ _ _ _ _ (terms x) (putJ x) g3 (Lib.hid (CK x hcx hfx)) (Lib.hid fun u W hu => put_jb x u W hfx hu) (Lib.hid HG) G O cap (acc (fun i => ws.getD i ⟨#[]⟩)) (fun i => ws.getD i ⟨#[]⟩) hG hW (Lib.hid rfl) (Lib.hid fun _ => rfl) hZ _ _ _ _ _ _ _ _ (terms y) (textJ y) (by rw [hT]; simp) (Lib.hid (CK y hc hfy)) (Lib.hid fun u W h hu => text_jb y u W hfy hu (hR.tab.below h)) (Lib.hid HQ) HX
open Go.ChangeShapes Go.WideShapes Go.ChangeAt
set_option maxRecDepth 100000 in
theorem lifted (os : Os) (started : os.Started) (H : Type) (enc : TypeId × Value → H) :
    ReturnsInHanded {} Tryz.checked os 7 .any (fun w args => (Rows.specOnceSpec.pre enc Tryz.prog Tryz.f7 Rows.specOnceRow.domain false w args ∧ laidMetH Tryz.prog Rows.specOnceRow.laid w) ∧ sizedMet enc Tryz.prog Tryz.f7 (OpenSpec.ofChange Rows.specOnceSpec) false w args)
      (Rows.specOnceSpec.post enc Tryz.prog Tryz.f7 false true false false) := by
  refine returnsInHanded_of_change_and (C := Tryz.checked) (X := fun w _ => laidMetH Tryz.prog Rows.specOnceRow.laid w) (fun _ _ _ hh h => h.of_heap hh) Ends.own started (by kernel_rfl) Tryz.func7
    (ChangeSpec.witness_shaped (enc := enc) (C := Tryz.checked) (os := os) (X := fun w _ => laidMetH Tryz.prog Rows.specOnceRow.laid w) false (World.laidAll Tryz.prog os Rows.specOnceRow.laid) #[.string ⟨#[]⟩, .int .i64 0, .slice none 0 0] 8 (World.laidAll_os _ _ _)
      (World.shaped_of_ZipB (by kernel_rfl) (by kernel_rfl)) (by kernel_rfl) (by kernel_rfl) (by kernel_rfl)
      (by rw [MakeChecks.laidMetH_plain _ _ _ (by kernel_rfl)]; exact laidMet_laidAll _ (by kernel_rfl) (by kernel_rfl))) ?_
  intro W base args ds gs before hval0 hW _ hsz0 hL _
  have hval : ∀ (j : Nat) t v, Tryz.f7.params[j]? = some t → args[j]? = some v → Value.okWide Tryz.prog W .any base t v := hval0
  have hsz : (DataW.weightsEach Tryz.prog (Tryz.f7.params.toList ++ Rows.specOnceSpec.plain.varTypes Tryz.prog) (ds ++ gs)).all (· ≤ reachBytes) = true := hsz0
  have hW' := hW
  obtain ⟨p, q, hA0, hV, rfl, hfz, hnd⟩ := hW
  have hA : DataW.TrodAll enc Tryz.prog W 0 (fun _ => true) true Tryz.f7.params.toList args.toList ds p := hA0
  rw [Tryz.params7] at hA hval hsz
  obtain ⟨v0, vs0, d0, ds0, p0, q0, hargs, rfl, rfl, h0, r0⟩ := trodAll_cons hA
  obtain ⟨v1, vs1, d1, ds1, p1, q1, rfl, rfl, rfl, h1, r1⟩ := trodAll_cons r0
  obtain ⟨v2, vs2, d2, ds2, p2, q2, rfl, rfl, rfl, h2, r2⟩ := trodAll_cons r1
  obtain ⟨rfl, rfl, rfl⟩ := trodAll_nil r2
  obtain rfl : args = #[v0, v1, v2] := by cases args; simp_all
  obtain ⟨rfl, rfl⟩ := trodVars_none hV
  obtain ⟨a0, rfl, rfl, rfl, w0⟩ := Go.ChangeMaps.open_string Tryz.underlying9 (hval 0 9 v0 rfl rfl) h0
  obtain ⟨a1, rfl, rfl, rfl, w1⟩ := open_int Tryz.underlying3 (hval 1 3 v1 rfl rfl) h1
  obtain ⟨a2, w2, g2⟩ := Texts.open_texts Tryz.underlying28 Tryz.underlying9 (by kernel_rfl) (hval 2 28 v2 rfl rfl) h2
  have q2 : ∀ n ∈ d2.weights Tryz.prog 28, n ≤ 140737488351232 := fun n hn => of_decide_eq_true (List.all_eq_true.1 hsz n (DataW.weights_mem_each (j := 2) rfl rfl n hn))
  have b2 := g2.reach (P := Tryz.prog) Tryz.underlying28 (by kernel_rfl) q2
  have b0 : a0.size ≤ 140737488351232 := by have := sized_string hsz (j := 0) rfl rfl; rw [Array.length_toList] at this; exact this
  have b1 := bounds_i64 w1
  refine (walk a0 b0 a1 b1.1 b1.2 v2 a2 b2.1 b2.2 W (Job.roots_met hL) w2).mono fun e W' ⟨he, hb⟩ => ?_
  subst he
  exact ⟨_, rfl, Ends.law_end Ends.laidOut (by rw [Tryz.params7]; decide +kernel) rfl (by kernel_rfl) Tryz.underlying4 hW' rfl hb⟩

theorem row : Rows.SpecOnceSaid :=
  OpenClaim.holds_of_wide 7 Tryz.f7 rfl rfl rfl rfl rfl rfl rfl ⟨rfl, rfl, rfl, rfl, rfl⟩ rfl rfl rfl rfl rfl (by kernel_rfl) Tryz.func7 (by kernel_rfl)
    (of_decide_eq_true (by kernel_rfl)) (by unfold Func.isWrapper; first | (rw [if_pos (by decide +kernel)]; kernel_rfl) | (rw [if_neg (by decide +kernel)]; exact ⟨rfl, rfl⟩))
    (fun os started H enc _ => lifted os started H enc)

/-- The statement: the tied card. -/
theorem proved : Rows.SpecOnceCardSaid :=
  Claim7.holds_tied_plain_at .later [] [.data, .data, .data, .data, .sentinel, .sentinel, .sentinel, .pinned] true Rows.specOnceCard.stood.harness true row (fun _ h => by cases h) (by kernel_rfl) (fun _ h => by cases h) specOnce_row_tie rfl ⟨rfl, rfl⟩ (by kernel_rfl) rfl
    (fun f fn hf hfn => by
      obtain rfl : f = 7 := Option.some.inj ((show Tryz.prog.funcNamed "demesne/demesnelaw11.SpecOnce" = some 7 by kernel_rfl).symm.trans hf) |>.symm
      obtain rfl : fn = Tryz.f7 := (Option.some.inj (Tryz.func7.symm.trans hfn)).symm
      exact ⟨by kernel_rfl, fun j t ht => by
        rw [Tryz.params7] at ht
        have hm : t ∈ [9, 3, 28] := by simpa using Array.mem_of_getElem? ht
        have hall : ([9, 3, 28].all fun u => !Tryz.prog.wantsStandIn u) = true := by kernel_rfl
        exact (show Tryz.prog.wantsStandIn t = false by simpa using List.all_eq_true.1 hall t hm)⟩)
    (by kernel_rfl)
end Go.Proofs.YtbilkeadhflibaaGreatDoor.specOnce
