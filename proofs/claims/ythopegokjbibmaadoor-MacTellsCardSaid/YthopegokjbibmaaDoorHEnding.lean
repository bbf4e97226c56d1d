/- What sha.ending answers of any length: a byte 80 hex, noughts, and eight bytes of how many bits there are; of memory that was there nothing turns. -/
import Derived.Test.YthopegokjbibmaaDoorHBytes
namespace Go.Proofs.YthopegokjbibmaaDoor.Sha
open Go.RowKit

theorem make_noughts (w : World) (l c : Nat) (hlc : l ≤ c) (hc : c ≤ 281474976710656) :
    ∃ w', (Instr.makeSlice 52 (.int .i64 (l : Int)) (.int .i64 (c : Int))).run Tryd.prog w = .ok (.slice (some ⟨w.heap.size, 0, none⟩) l c) w' ∧ Owns w' w.heap.size w.heap.size c (List.replicate l 0) ∧ Below w.heap.size w w' := by
  obtain ⟨i0, hi, hz0, hz1, hz2⟩ := info_parts info5
  have hr := run_make (P := Tryd.prog) w 52 5 i0 (.int .u8 0) Tryd.underlying52 hi hz0 .i64 .i64 l c (by omega) (by omega) (by rw [hz2]; omega) (by omega)
  simp only [Int.toNat_natCast] at hr
  refine ⟨_, hr, ⟨?_, .inr ⟨w.heap.size, c, _, by rw [List.length_replicate], Nat.le_refl _, heap_alloc_new w _, by rw [List.length_replicate]; exact hlc, by unfold maxLen; omega, by rw [size_madeCells, hz1], ?_⟩⟩, (Below.refl _ _).alloc (Nat.le_refl _) _⟩
  · rw [vals_length, Nat.mul_one]
  · rw [hz1, Nat.mul_one, Nat.mul_one]
    show (madeCells #[Value.int .u8 0] c).toList.take _ = _
    rw [toList_madeCells_one, List.length_replicate, List.take_replicate, Nat.min_eq_left hlc]
    simp [vals]
theorem Owns.store {w : World} {B g cap : Nat} {l : List UInt8} (h : Owns w B g cap l) (j : Nat) (x : UInt8) : Owns (w.setCell ⟨g, j, none⟩ (.int .u8 (x.toNat : Int))) B g cap (l.set j x) := by
  have := (World.ownsRow.stored h j (.int .u8 (x.toNat : Int))).1
  unfold Owns
  rw [List.length_set]
  have e : vals (l.set j x) = (vals l).set j (.int .u8 (x.toNat : Int)) := by simp [vals, List.map_set]
  rw [e]
  exact this
theorem Owns.cell {w : World} {B g cap : Nat} {l : List UInt8} (h : Owns w B g cap l) (j : Nat) (hj : j < l.length) : w.cell? ⟨g, j, none⟩ = some (.int .u8 ((l.getD j 0).toNat : Int)) := by
  rw [World.ownsRow.cellAt h j (by omega)]
  simp [vals, hj]
theorem Owns.frozen {w : World} {B g cap : Nat} {l : List UInt8} (h : Owns w B g cap l) (j : Nat) : w.frozen? ⟨g, j, none⟩ = false := World.ownsRow.frozenAt h j

set_option maxHeartbeats 1000000 in
set_option maxRecDepth 100000 in
theorem ending_any (n : Nat) (hn : n ≤ 1152921504606846976) (w : World) :
    Calls Tryd.prog 53 #[.int .i64 (n : Int)] w fun e w' => e = .returned (.string (str (ending n))) ∧ Below w.heap.size w w' := by
  obtain ⟨w1, hmk, hown1, hb1⟩ := make_noughts w (1 + noughts n) (1 + noughts n + 8) (by omega) (by unfold noughts; omega)
  obtain ⟨r, hr⟩ : ∃ r, n % 64 = r := ⟨_, rfl⟩
  obtain ⟨t, ht⟩ : ∃ t, (r + 8) % 64 = t := ⟨_, rfl⟩
  have hrz : (n : Int) % 64 = (r : Int) := by omega
  have htz : ((r : Int) + 8) % 64 = (t : Int) := by omega
  have hnz : (63 : Int) - (t : Int) = (noughts n : Int) := by unfold noughts; omega
  have hr64 : (r : Int) < 64 := by omega
  have ht64 : (t : Int) < 64 := by omega
  have hmk' : (Instr.makeSlice 52 (.int .i64 (1 + (noughts n : Int))) (.int .i64 (1 + (noughts n : Int) + 8))).run Tryd.prog w = .ok (.slice (some ⟨w.heap.size, 0, none⟩) (1 + noughts n) (1 + noughts n + 8)) w1 := by rw [← hmk]; simp
  have hq8 : noughts n ≤ 63 := by unfold noughts; omega
  have HE : Hid (ending n = 128 :: (List.replicate (noughts n) 0 ++ count (n * 8))) := Lib.hid rfl
  obtain ⟨q, hq⟩ : ∃ q, noughts n = q := ⟨_, rfl⟩
  rw [hq] at hnz hmk' hown1 hq8 HE
  obtain ⟨g, hg⟩ : ∃ g, g = w.heap.size := ⟨_, rfl⟩
  have hown1' : Owns w1 w.heap.size g (1 + q + 8) (List.replicate (1 + q) 0) := by rw [hg]; exact hown1
  have hwg : w.heap.size ≤ g := Nat.le_of_eq hg.symm
  rw [← hg] at hmk'
  have c0 := hown1'.cell 0 (by simp; omega)
  have f0 := hown1'.frozen 0
  have HO : Hid (Owns (w1.setCell ⟨g, 0, none⟩ (.int .u8 128)) w.heap.size g (1 + q + 8) ((128 :: List.replicate q 0) ++ (count (n * 8)).take 0)) := Lib.hid (by
    have := hown1'.store 0 128
    rw [Nat.add_comm 1 q, List.replicate_succ, List.set_cons_zero] at this
    rw [List.take_zero, List.append_nil, Nat.add_comm 1 q]
    exact this)
  have hb2 : Below w.heap.size w (w1.setCell ⟨g, 0, none⟩ (.int .u8 128)) := hb1.setCell hwg _
  have hq1 : (0 : Int) < 1 + (q : Int) := by omega
  clear hg hown1 hmk hown1' hq hr ht
  obtain ⟨m, hm⟩ : ∃ m, n * 8 = m := ⟨_, rfl⟩
  rw [hm] at HE HO
  have hmz : (n : Int) * 8 = (m : Int) := by omega
  have hm64 : m ≤ 9223372036854775808 := by omega
  clear hm
  go_enter Tryd.func53, Tryd.ntmps53
  go_wp2
  clear hmk' c0 f0 hmz hnz hq1 hrz htz
  go_loopw [4, 6] (fun v i wr => ∃ k j : Nat, k ≤ 8 ∧ i = .int .i64 (56 - 8 * (k : Int)) ∧ j = 1 + q + k ∧ v = .slice (some ⟨g, 0, none⟩) j (1 + q + 8) ∧ Owns wr w.heap.size g (1 + q + 8) ((128 :: List.replicate q 0) ++ (count m).take k) ∧ Below w.heap.size w wr) (fun _ i _ => (intOf i + 8).toNat)
  case atStart => exact ⟨0, 1 + q, Nat.zero_le _, rfl, rfl, rfl, HO.out, hb2⟩
  case round =>
    obtain ⟨k, j, hk, rfl, hj, rfl, hown, hb⟩ := hrel
    have HJ := Lib.hid hj
    clear HO hj
    obtain rfl | rfl | rfl | rfl | rfl | rfl | rfl | rfl | rfl : k = 0 ∨ k = 1 ∨ k = 2 ∨ k = 3 ∨ k = 4 ∨ k = 5 ∨ k = 6 ∨ k = 7 ∨ k = 8 := by omega
    · rw [show (56 : Int) - 8 * ((0 : Nat) : Int) = 56 from rfl]
      obtain ⟨x, hx⟩ : ∃ x : UInt8, x = (m / 2 ^ 56).toUInt8 := ⟨_, rfl⟩
      have hxz : (m : Int) / 72057594037927936 = (x.toNat : Int) := by rw [hx]; simp; omega
      have HX : Hid ((128 :: List.replicate q 0) ++ (count m).take 0 ++ [x] = (128 :: List.replicate q 0) ++ (count m).take 1) := Lib.hid (by rw [hx, List.append_assoc]; rfl)
      have HA : Hid (((128 :: List.replicate q 0) ++ (count m).take 0).length = j) := Lib.hid (by have := HJ.out; simp [count]; omega)
      have hb3 : Below w.heap.size w (World.alloc wr (.cells #[.int .u8 (x.toNat : Int)] 5)) := hb.alloc hb.size _
      clear hx
      go_wp2_with (at_builtin; refine append_fits _ rfl _ _ rfl w.heap.size g (1 + q + 8) _ j HA.out rfl (hown.alloc _) ⟨wr.heap.size, 0, none⟩ 1 1 [x] rfl rfl (built wr _ _) (by have := HA.out; have := HJ.out; omega) ?_; intro w5 hown5 hgr5)
      have b5 : Below w.heap.size w w5 := grown hb3 hgr5 hb3.size hwg
      rw [HX.out] at hown5
      clear hgr5 hown hxz
      go_wp2
      go_roundw
      case rel => exact ⟨1, j + 1, by omega, rfl, by have := HJ.out; omega, rfl, hown5, b5⟩
      case measure => simp [intOf]
    · rw [show (56 : Int) - 8 * ((1 : Nat) : Int) = 48 from rfl]
      obtain ⟨x, hx⟩ : ∃ x : UInt8, x = (m / 2 ^ 48).toUInt8 := ⟨_, rfl⟩
      have hxz : ((m : Int) / 281474976710656) % 256 = (x.toNat : Int) := by rw [hx]; simp; try omega
      have HX : Hid ((128 :: List.replicate q 0) ++ (count m).take 1 ++ [x] = (128 :: List.replicate q 0) ++ (count m).take 2) := Lib.hid (by rw [hx, List.append_assoc]; rfl)
      have HA : Hid (((128 :: List.replicate q 0) ++ (count m).take 1).length = j) := Lib.hid (by have := HJ.out; simp [count]; omega)
      have hb3 : Below w.heap.size w (World.alloc wr (.cells #[.int .u8 (x.toNat : Int)] 5)) := hb.alloc hb.size _
      clear hx
      go_wp2_with (at_builtin; refine append_fits _ rfl _ _ rfl w.heap.size g (1 + q + 8) _ j HA.out rfl (hown.alloc _) ⟨wr.heap.size, 0, none⟩ 1 1 [x] rfl rfl (built wr _ _) (by have := HA.out; have := HJ.out; omega) ?_; intro w5 hown5 hgr5)
      have b5 : Below w.heap.size w w5 := grown hb3 hgr5 hb3.size hwg
      rw [HX.out] at hown5
      clear hgr5 hown hxz
      go_wp2
      go_roundw
      case rel => exact ⟨2, j + 1, by omega, rfl, by have := HJ.out; omega, rfl, hown5, b5⟩
      case measure => simp [intOf]
    · rw [show (56 : Int) - 8 * ((2 : Nat) : Int) = 40 from rfl]
      obtain ⟨x, hx⟩ : ∃ x : UInt8, x = (m / 2 ^ 40).toUInt8 := ⟨_, rfl⟩
      have hxz : ((m : Int) / 1099511627776) % 256 = (x.toNat : Int) := by rw [hx]; simp; try omega
      have HX : Hid ((128 :: List.replicate q 0) ++ (count m).take 2 ++ [x] = (128 :: List.replicate q 0) ++ (count m).take 3) := Lib.hid (by rw [hx, List.append_assoc]; rfl)
      have HA : Hid (((128 :: List.replicate q 0) ++ (count m).take 2).length = j) := Lib.hid (by have := HJ.out; simp [count]; omega)
      have hb3 : Below w.heap.size w (World.alloc wr (.cells #[.int .u8 (x.toNat : Int)] 5)) := hb.alloc hb.size _
      clear hx
      go_wp2_with (at_builtin; refine append_fits _ rfl _ _ rfl w.heap.size g (1 + q + 8) _ j HA.out rfl (hown.alloc _) ⟨wr.heap.size, 0, none⟩ 1 1 [x] rfl rfl (built wr _ _) (by have := HA.out; have := HJ.out; omega) ?_; intro w5 hown5 hgr5)
      have b5 : Below w.heap.size w w5 := grown hb3 hgr5 hb3.size hwg
      rw [HX.out] at hown5
      clear hgr5 hown hxz
      go_wp2
      go_roundw
      case rel => exact ⟨3, j + 1, by omega, rfl, by have := HJ.out; omega, rfl, hown5, b5⟩
      case measure => simp [intOf]
    · rw [show (56 : Int) - 8 * ((3 : Nat) : Int) = 32 from rfl]
      obtain ⟨x, hx⟩ : ∃ x : UInt8, x = (m / 2 ^ 32).toUInt8 := ⟨_, rfl⟩
      have hxz : ((m : Int) / 4294967296) % 256 = (x.toNat : Int) := by rw [hx]; simp; try omega
      have HX : Hid ((128 :: List.replicate q 0) ++ (count m).take 3 ++ [x] = (128 :: List.replicate q 0) ++ (count m).take 4) := Lib.hid (by rw [hx, List.append_assoc]; rfl)
      have HA : Hid (((128 :: List.replicate q 0) ++ (count m).take 3).length = j) := Lib.hid (by have := HJ.out; simp [count]; omega)
      have hb3 : Below w.heap.size w (World.alloc wr (.cells #[.int .u8 (x.toNat : Int)] 5)) := hb.alloc hb.size _
      clear hx
      go_wp2_with (at_builtin; refine append_fits _ rfl _ _ rfl w.heap.size g (1 + q + 8) _ j HA.out rfl (hown.alloc _) ⟨wr.heap.size, 0, none⟩ 1 1 [x] rfl rfl (built wr _ _) (by have := HA.out; have := HJ.out; omega) ?_; intro w5 hown5 hgr5)
      have b5 : Below w.heap.size w w5 := grown hb3 hgr5 hb3.size hwg
      rw [HX.out] at hown5
      clear hgr5 hown hxz
      go_wp2
      go_roundw
      case rel => exact ⟨4, j + 1, by omega, rfl, by have := HJ.out; omega, rfl, hown5, b5⟩
      case measure => simp [intOf]
    · rw [show (56 : Int) - 8 * ((4 : Nat) : Int) = 24 from rfl]
      obtain ⟨x, hx⟩ : ∃ x : UInt8, x = (m / 2 ^ 24).toUInt8 := ⟨_, rfl⟩
      have hxz : ((m : Int) / 16777216) % 256 = (x.toNat : Int) := by rw [hx]; simp; try omega
      have HX : Hid ((128 :: List.replicate q 0) ++ (count m).take 4 ++ [x] = (128 :: List.replicate q 0) ++ (count m).take 5) := Lib.hid (by rw [hx, List.append_assoc]; rfl)
      have HA : Hid (((128 :: List.replicate q 0) ++ (count m).take 4).length = j) := Lib.hid (by have := HJ.out; simp [count]; omega)
      have hb3 : Below w.heap.size w (World.alloc wr (.cells #[.int .u8 (x.toNat : Int)] 5)) := hb.alloc hb.size _
      clear hx
      go_wp2_with (at_builtin; refine append_fits _ rfl _ _ rfl w.heap.size g (1 + q + 8) _ j HA.out rfl (hown.alloc _) ⟨wr.heap.size, 0, none⟩ 1 1 [x] rfl rfl (built wr _ _) (by have := HA.out; have := HJ.out; omega) ?_; intro w5 hown5 hgr5)
      have b5 : Below w.heap.size w w5 := grown hb3 hgr5 hb3.size hwg
      rw [HX.out] at hown5
      clear hgr5 hown hxz
      go_wp2
      go_roundw
      case rel => exact ⟨5, j + 1, by omega, rfl, by have := HJ.out; omega, rfl, hown5, b5⟩
      case measure => simp [intOf]
    · rw [show (56 : Int) - 8 * ((5 : Nat) : Int) = 16 from rfl]
      obtain ⟨x, hx⟩ : ∃ x : UInt8, x = (m / 2 ^ 16).toUInt8 := ⟨_, rfl⟩
      have hxz : ((m : Int) / 65536) % 256 = (x.toNat : Int) := by rw [hx]; simp; try omega
      have HX : Hid ((128 :: List.replicate q 0) ++ (count m).take 5 ++ [x] = (128 :: List.replicate q 0) ++ (count m).take 6) := Lib.hid (by rw [hx, List.append_assoc]; rfl)
      have HA : Hid (((128 :: List.replicate q 0) ++ (count m).take 5).length = j) := Lib.hid (by have := HJ.out; simp [count]; omega)
      have hb3 : Below w.heap.size w (World.alloc wr (.cells #[.int .u8 (x.toNat : Int)] 5)) := hb.alloc hb.size _
      clear hx
      go_wp2_with (at_builtin; refine append_fits _ rfl _ _ rfl w.heap.size g (1 + q + 8) _ j HA.out rfl (hown.alloc _) ⟨wr.heap.size, 0, none⟩ 1 1 [x] rfl rfl (built wr _ _) (by have := HA.out; have := HJ.out; omega) ?_; intro w5 hown5 hgr5)
      have b5 : Below w.heap.size w w5 := grown hb3 hgr5 hb3.size hwg
      rw [HX.out] at hown5
      clear hgr5 hown hxz
      go_wp2
      go_roundw
      case rel => exact ⟨6, j + 1, by omega, rfl, by have := HJ.out; omega, rfl, hown5, b5⟩
      case measure => simp [intOf]
    · rw [show (56 : Int) - 8 * ((6 : Nat) : Int) = 8 from rfl]
      obtain ⟨x, hx⟩ : ∃ x : UInt8, x = (m / 2 ^ 8).toUInt8 := ⟨_, rfl⟩
      have hxz : ((m : Int) / 256) % 256 = (x.toNat : Int) := by rw [hx]; simp; try omega
      have HX : Hid ((128 :: List.replicate q 0) ++ (count m).take 6 ++ [x] = (128 :: List.replicate q 0) ++ (count m).take 7) := Lib.hid (by rw [hx, List.append_assoc]; rfl)
      have HA : Hid (((128 :: List.replicate q 0) ++ (count m).take 6).length = j) := Lib.hid (by have := HJ.out; simp [count]; omega)
      have hb3 : Below w.heap.size w (World.alloc wr (.cells #[.int .u8 (x.toNat : Int)] 5)) := hb.alloc hb.size _
      clear hx
      go_wp2_with (at_builtin; refine append_fits _ rfl _ _ rfl w.heap.size g (1 + q + 8) _ j HA.out rfl (hown.alloc _) ⟨wr.heap.size, 0, none⟩ 1 1 [x] rfl rfl (built wr _ _) (by have := HA.out; have := HJ.out; omega) ?_; intro w5 hown5 hgr5)
      have b5 : Below w.heap.size w w5 := grown hb3 hgr5 hb3.size hwg
      rw [HX.out] at hown5
      clear hgr5 hown hxz
      go_wp2
      go_roundw
      case rel => exact ⟨7, j + 1, by omega, rfl, by have := HJ.out; omega, rfl, hown5, b5⟩
      case measure => simp [intOf]
    · rw [show (56 : Int) - 8 * ((7 : Nat) : Int) = 0 from rfl]
      obtain ⟨x, hx⟩ : ∃ x : UInt8, x = (m / 2 ^ 0).toUInt8 := ⟨_, rfl⟩
      have hxz : ((m : Int)) % 256 = (x.toNat : Int) := by rw [hx]; simp; try omega
      have HX : Hid ((128 :: List.replicate q 0) ++ (count m).take 7 ++ [x] = (128 :: List.replicate q 0) ++ (count m).take 8) := Lib.hid (by rw [hx, List.append_assoc]; simp [count])
      have HA : Hid (((128 :: List.replicate q 0) ++ (count m).take 7).length = j) := Lib.hid (by have := HJ.out; simp [count]; omega)
      have hb3 : Below w.heap.size w (World.alloc wr (.cells #[.int .u8 (x.toNat : Int)] 5)) := hb.alloc hb.size _
      clear hx
      go_wp2_with (at_builtin; refine append_fits _ rfl _ _ rfl w.heap.size g (1 + q + 8) _ j HA.out rfl (hown.alloc _) ⟨wr.heap.size, 0, none⟩ 1 1 [x] rfl rfl (built wr _ _) (by have := HA.out; have := HJ.out; omega) ?_; intro w5 hown5 hgr5)
      have b5 : Below w.heap.size w w5 := grown hb3 hgr5 hb3.size hwg
      rw [HX.out] at hown5
      clear hgr5 hown hxz
      go_wp2
      go_roundw
      case rel => exact ⟨8, j + 1, by omega, rfl, by have := HJ.out; omega, rfl, hown5, b5⟩
      case measure => simp [intOf]
    · rw [show (56 : Int) - 8 * ((8 : Nat) : Int) = -8 from rfl]
      have e : (128 :: List.replicate q 0) ++ (count m).take 8 = ending n := by rw [HE.out]; rfl
      have hcv := conv_owns hown
      have hl : ((128 :: List.replicate q 0) ++ (count m).take 8).length = j := by have := HJ.out; simp [count]; omega
      rw [hl, e] at hcv
      clear hown e hl
      go_wp2
      go_ret
      exact ⟨rfl, hb⟩
end Go.Proofs.YthopegokjbibmaaDoor.Sha
