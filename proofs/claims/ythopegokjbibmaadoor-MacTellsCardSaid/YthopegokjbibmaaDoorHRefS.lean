/- The document's own answer to chapter 6: what its Sum tells of any text; of memory that was there nothing turns. -/
import Derived.Test.YthopegokjbibmaaDoorHRefC
namespace Go.Proofs.YthopegokjbibmaaDoor.Sha
open Go.RowKit

/-- A text, its byte 80 hex, and so many noughts. -/
def padded (l : List UInt8) (j : Nat) : List UInt8 := l ++ 128 :: List.replicate j 0
theorem padded_len (l : List UInt8) (j : Nat) : (padded l j).length = l.length + 1 + j := by simp [padded]; omega
theorem padded_snoc (l : List UInt8) (j : Nat) : padded l j ++ [0] = padded l (j + 1) := by simp [padded, List.replicate_succ']
theorem noughts_at (n : Nat) : (n + 1 + noughts n) % 64 = 56 := by unfold noughts; omega
theorem noughts_not (n j : Nat) (h : j < noughts n) : (n + 1 + j) % 64 ≠ 56 := by unfold noughts at h; omega
theorem bytes_ext {a b : ByteArray} (h : a.data.toList = b.data.toList) : a = b := by rw [← str_of a, h, str_of]
set_option maxHeartbeats 4000000 in
set_option maxRecDepth 100000 in
theorem rsum_any (s : ByteArray) (hs : s.size ≤ 576460752303423488) (w : World) :
    Calls Tryd.prog 37 #[.string s] w fun e w' => e = .returned (.string (str (sumL s.data.toList))) ∧ Below w.heap.size w w' := by
  obtain ⟨n, hn⟩ : ∃ n, s.size = n := ⟨_, rfl⟩
  obtain ⟨l, hl⟩ : ∃ l, s.data.toList = l := ⟨_, rfl⟩
  have hll : l.length = n := by rw [← hl, size_list, hn]
  obtain ⟨m, hm⟩ : ∃ m, n * 8 = m := ⟨_, rfl⟩
  have hmz : (n : Int) * 8 = (m : Int) := by omega
  have hm64 : m ≤ 9223372036854775808 := by omega
  have HSe : Hid (str l = s) := Lib.hid (by rw [← hl, str_of])
  rw [hl]
  rw [hn] at hs
  have HLl := Lib.hid hll
  have HMm := Lib.hid hm
  have hadd0 : ∀ w, Sem.run Tryd.prog (Op.stringOp .add s ⟨#[128]⟩) w = .ok (.string (str (padded l 0))) w := fun w => by
    rw [run_string_add_sum w _ _ (by rw [hn]; show n + 1 ≤ _; omega), show (s ++ ⟨#[128]⟩ : ByteArray) = str (padded l 0) from bytes_ext (by rw [← hl]; simp [padded, str])]
  clear hl hll hm
  go_enter Tryd.func37, Tryd.ntmps37
  go_wp2_with fail
  refine (rounds_any _).mono ?_
  rintro e w1 ⟨rfl, hw1⟩
  have HB1 : Hid (Below w.heap.size w w1 ∧ Reads w1 w.heap.size squares.list ∧ Reads w1 (w.heap.size + 1) cubes) := Lib.hid (by
    rw [hw1]
    refine ⟨((Below.refl _ _).alloc (Nat.le_refl _) _).alloc (by simp) _, ?_, ?_⟩
    · exact Reads.of_block (l := squares.list) ((heap_alloc_old _ _ (by simp)).trans (heap_alloc_new w _))
    · have := heap_alloc_new (w.alloc (.cells (words squares.list).toArray 79)) (.cells (words cubes).toArray 79)
      rw [World.size_alloc] at this
      exact Reads.of_block this)
  clear hw1
  go_wp2
  clear hadd0 hmz hn
  go_loopw [6] (fun v wr => ∃ (j : Nat) (x : ByteArray), j ≤ noughts n ∧ v = .string x ∧ x = str (padded l j) ∧ wr = w1) (fun v _ => match v with | .string x => n + 1 + noughts n - x.size | _ => 0)
  case atStart => exact ⟨0, _, Nat.zero_le _, rfl, rfl, rfl⟩
  case round =>
    obtain ⟨j, x, hj, rfl, hx, rfl⟩ := hrel
    have hxs : x.size = n + 1 + j := by rw [hx, str_size, padded_len, HLl.out]
    have hn63 : noughts n ≤ 63 := by unfold noughts; omega
    by_cases hlt : j < noughts n
    · have hne := noughts_not n j hlt
      obtain ⟨r, hr⟩ : ∃ r, (n + 1 + j) % 64 = r := ⟨_, rfl⟩
      rw [hr] at hne
      have hrz : (x.size : Int) % 64 = (r : Int) := by rw [hxs]; omega
      have hrn : ((r : Int) != 56) = true := by rw [bne_iff_ne]; omega
      have hrn2 : ¬ (r : Int) = 56 := by omega
      have hadd : ∀ w, Sem.run Tryd.prog (Op.stringOp .add x ⟨#[0]⟩) w = .ok (.string (x ++ ⟨#[0]⟩)) w := fun w => run_string_add_sum w _ _ (by rw [hxs]; show n + 1 + j + 1 ≤ _; omega)
      have HN : Hid (x ++ ⟨#[0]⟩ = str (padded l (j + 1))) := Lib.hid (by rw [hx, ← padded_snoc, ← str_snoc]; rfl)
      have HNs : Hid ((x ++ ⟨#[0]⟩ : ByteArray).size = n + 1 + j + 1) := Lib.hid (by rw [ByteArray.size_append, hxs]; rfl)
      have HXs := Lib.hid hxs
      clear hx hxs hr hne
      go_wp2
      go_roundw
      case rel => exact ⟨j + 1, _, by omega, rfl, HN.out, trivial⟩
      case measure =>
        have h1 := HNs.out
        have h2 := HXs.out
        show n + 1 + noughts n - (x ++ ⟨#[0]⟩ : ByteArray).size < n + 1 + noughts n - x.size
        rw [h1, h2]
        omega
    · obtain rfl : j = noughts n := by omega
      have hr := noughts_at n
      have hrz : (x.size : Int) % 64 = 56 := by rw [hxs]; omega
      have HX0 := Lib.hid hx
      clear hx hxs hr
      go_wp2
      clear hrz
      go_loopw [6, 7] (fun v i wr => ∃ (k : Nat) (x : ByteArray), k ≤ 8 ∧ i = .int .i64 (7 - (k : Int)) ∧ v = .string x ∧ x = str (padded l (noughts n) ++ (count m).take k) ∧ Below w.heap.size w wr ∧ Reads wr w.heap.size squares.list ∧ Reads wr (w.heap.size + 1) cubes) (fun _ i _ => (intOf i + 1).toNat)
      case atStart => exact ⟨0, x, Nat.zero_le _, rfl, rfl, by rw [HX0.out]; simp, HB1.out.1, HB1.out.2.1, HB1.out.2.2⟩
      case round =>
        clear HX0 HB1 hj hlt
        obtain ⟨k, x, hk, rfl, rfl, hx, hb, hRs, hRk⟩ := hrel
        have HX := Lib.hid hx
        have hxs : x.size ≤ n + 1 + noughts n + 8 := by rw [hx, str_size, List.length_append, padded_len, HLl.out, List.length_take]; omega
        have HRs := Lib.hid hRs
        have HRk := Lib.hid hRk
        clear hx hRs hRk
        obtain rfl | rfl | rfl | rfl | rfl | rfl | rfl | rfl | rfl : k = 0 ∨ k = 1 ∨ k = 2 ∨ k = 3 ∨ k = 4 ∨ k = 5 ∨ k = 6 ∨ k = 7 ∨ k = 8 := by omega
        · rw [show (7 : Int) - ((0 : Nat) : Int) = 7 from rfl]
          obtain ⟨y, hy⟩ : ∃ y : UInt8, y = (m / 2 ^ 56).toUInt8 := ⟨_, rfl⟩
          have hyz : (m : Int) / 72057594037927936 = (y.toNat : Int) := by rw [hy]; simp; omega
          have hcv : (convert 52 9 (.slice (some ⟨wr.heap.size, 0, none⟩) 1 1)).run Tryd.prog (wr.alloc (.cells #[.int .u8 (y.toNat : Int)] 5)) = .ok (.string (str [y])) (wr.alloc (.cells #[.int .u8 (y.toNat : Int)] 5)) := conv_built wr [y] (by simp)
          have hadd : ∀ w, Sem.run Tryd.prog (Op.stringOp .add x (str [y])) w = .ok (.string (x ++ str [y])) w := fun w => run_string_add_sum w _ _ (by rw [str_size]; show x.size + 1 ≤ _; omega)
          have HN : Hid (x ++ str [y] = str (padded l (noughts n) ++ (count m).take 1)) := Lib.hid (by rw [HX.out, str_snoc, hy, List.append_assoc]; rfl)
          have hA : Below wr.heap.size wr (wr.alloc (.cells #[.int .u8 (y.toNat : Int)] 5)) := (Below.refl _ _).alloc (Nat.le_refl _) _
          clear hy
          go_wp2
          go_roundw
          case rel => exact ⟨1, _, by omega, rfl, rfl, HN.out, hb.trans (hA.mono hb.size), HRs.out.below hA, HRk.out.below hA⟩
          case measure => simp [intOf]
        · rw [show (7 : Int) - ((1 : Nat) : Int) = 6 from rfl]
          obtain ⟨y, hy⟩ : ∃ y : UInt8, y = (m / 2 ^ 48).toUInt8 := ⟨_, rfl⟩
          have hyz : (m : Int) / 281474976710656 % 256 = (y.toNat : Int) := by rw [hy]; simp
          have hcv : (convert 52 9 (.slice (some ⟨wr.heap.size, 0, none⟩) 1 1)).run Tryd.prog (wr.alloc (.cells #[.int .u8 (y.toNat : Int)] 5)) = .ok (.string (str [y])) (wr.alloc (.cells #[.int .u8 (y.toNat : Int)] 5)) := conv_built wr [y] (by simp)
          have hadd : ∀ w, Sem.run Tryd.prog (Op.stringOp .add x (str [y])) w = .ok (.string (x ++ str [y])) w := fun w => run_string_add_sum w _ _ (by rw [str_size]; show x.size + 1 ≤ _; omega)
          have HN : Hid (x ++ str [y] = str (padded l (noughts n) ++ (count m).take 2)) := Lib.hid (by rw [HX.out, str_snoc, hy, List.append_assoc]; rfl)
          have hA : Below wr.heap.size wr (wr.alloc (.cells #[.int .u8 (y.toNat : Int)] 5)) := (Below.refl _ _).alloc (Nat.le_refl _) _
          clear hy
          go_wp2
          go_roundw
          case rel => exact ⟨2, _, by omega, rfl, rfl, HN.out, hb.trans (hA.mono hb.size), HRs.out.below hA, HRk.out.below hA⟩
          case measure => simp [intOf]
        · rw [show (7 : Int) - ((2 : Nat) : Int) = 5 from rfl]
          obtain ⟨y, hy⟩ : ∃ y : UInt8, y = (m / 2 ^ 40).toUInt8 := ⟨_, rfl⟩
          have hyz : (m : Int) / 1099511627776 % 256 = (y.toNat : Int) := by rw [hy]; simp
          have hcv : (convert 52 9 (.slice (some ⟨wr.heap.size, 0, none⟩) 1 1)).run Tryd.prog (wr.alloc (.cells #[.int .u8 (y.toNat : Int)] 5)) = .ok (.string (str [y])) (wr.alloc (.cells #[.int .u8 (y.toNat : Int)] 5)) := conv_built wr [y] (by simp)
          have hadd : ∀ w, Sem.run Tryd.prog (Op.stringOp .add x (str [y])) w = .ok (.string (x ++ str [y])) w := fun w => run_string_add_sum w _ _ (by rw [str_size]; show x.size + 1 ≤ _; omega)
          have HN : Hid (x ++ str [y] = str (padded l (noughts n) ++ (count m).take 3)) := Lib.hid (by rw [HX.out, str_snoc, hy, List.append_assoc]; rfl)
          have hA : Below wr.heap.size wr (wr.alloc (.cells #[.int .u8 (y.toNat : Int)] 5)) := (Below.refl _ _).alloc (Nat.le_refl _) _
          clear hy
          go_wp2
          go_roundw
          case rel => exact ⟨3, _, by omega, rfl, rfl, HN.out, hb.trans (hA.mono hb.size), HRs.out.below hA, HRk.out.below hA⟩
          case measure => simp [intOf]
        · rw [show (7 : Int) - ((3 : Nat) : Int) = 4 from rfl]
          obtain ⟨y, hy⟩ : ∃ y : UInt8, y = (m / 2 ^ 32).toUInt8 := ⟨_, rfl⟩
          have hyz : (m : Int) / 4294967296 % 256 = (y.toNat : Int) := by rw [hy]; simp
          have hcv : (convert 52 9 (.slice (some ⟨wr.heap.size, 0, none⟩) 1 1)).run Tryd.prog (wr.alloc (.cells #[.int .u8 (y.toNat : Int)] 5)) = .ok (.string (str [y])) (wr.alloc (.cells #[.int .u8 (y.toNat : Int)] 5)) := conv_built wr [y] (by simp)
          have hadd : ∀ w, Sem.run Tryd.prog (Op.stringOp .add x (str [y])) w = .ok (.string (x ++ str [y])) w := fun w => run_string_add_sum w _ _ (by rw [str_size]; show x.size + 1 ≤ _; omega)
          have HN : Hid (x ++ str [y] = str (padded l (noughts n) ++ (count m).take 4)) := Lib.hid (by rw [HX.out, str_snoc, hy, List.append_assoc]; rfl)
          have hA : Below wr.heap.size wr (wr.alloc (.cells #[.int .u8 (y.toNat : Int)] 5)) := (Below.refl _ _).alloc (Nat.le_refl _) _
          clear hy
          go_wp2
          go_roundw
          case rel => exact ⟨4, _, by omega, rfl, rfl, HN.out, hb.trans (hA.mono hb.size), HRs.out.below hA, HRk.out.below hA⟩
          case measure => simp [intOf]
        · rw [show (7 : Int) - ((4 : Nat) : Int) = 3 from rfl]
          obtain ⟨y, hy⟩ : ∃ y : UInt8, y = (m / 2 ^ 24).toUInt8 := ⟨_, rfl⟩
          have hyz : (m : Int) / 16777216 % 256 = (y.toNat : Int) := by rw [hy]; simp
          have hcv : (convert 52 9 (.slice (some ⟨wr.heap.size, 0, none⟩) 1 1)).run Tryd.prog (wr.alloc (.cells #[.int .u8 (y.toNat : Int)] 5)) = .ok (.string (str [y])) (wr.alloc (.cells #[.int .u8 (y.toNat : Int)] 5)) := conv_built wr [y] (by simp)
          have hadd : ∀ w, Sem.run Tryd.prog (Op.stringOp .add x (str [y])) w = .ok (.string (x ++ str [y])) w := fun w => run_string_add_sum w _ _ (by rw [str_size]; show x.size + 1 ≤ _; omega)
          have HN : Hid (x ++ str [y] = str (padded l (noughts n) ++ (count m).take 5)) := Lib.hid (by rw [HX.out, str_snoc, hy, List.append_assoc]; rfl)
          have hA : Below wr.heap.size wr (wr.alloc (.cells #[.int .u8 (y.toNat : Int)] 5)) := (Below.refl _ _).alloc (Nat.le_refl _) _
          clear hy
          go_wp2
          go_roundw
          case rel => exact ⟨5, _, by omega, rfl, rfl, HN.out, hb.trans (hA.mono hb.size), HRs.out.below hA, HRk.out.below hA⟩
          case measure => simp [intOf]
        · rw [show (7 : Int) - ((5 : Nat) : Int) = 2 from rfl]
          obtain ⟨y, hy⟩ : ∃ y : UInt8, y = (m / 2 ^ 16).toUInt8 := ⟨_, rfl⟩
          have hyz : (m : Int) / 65536 % 256 = (y.toNat : Int) := by rw [hy]; simp
          have hcv : (convert 52 9 (.slice (some ⟨wr.heap.size, 0, none⟩) 1 1)).run Tryd.prog (wr.alloc (.cells #[.int .u8 (y.toNat : Int)] 5)) = .ok (.string (str [y])) (wr.alloc (.cells #[.int .u8 (y.toNat : Int)] 5)) := conv_built wr [y] (by simp)
          have hadd : ∀ w, Sem.run Tryd.prog (Op.stringOp .add x (str [y])) w = .ok (.string (x ++ str [y])) w := fun w => run_string_add_sum w _ _ (by rw [str_size]; show x.size + 1 ≤ _; omega)
          have HN : Hid (x ++ str [y] = str (padded l (noughts n) ++ (count m).take 6)) := Lib.hid (by rw [HX.out, str_snoc, hy, List.append_assoc]; rfl)
          have hA : Below wr.heap.size wr (wr.alloc (.cells #[.int .u8 (y.toNat : Int)] 5)) := (Below.refl _ _).alloc (Nat.le_refl _) _
          clear hy
          go_wp2
          go_roundw
          case rel => exact ⟨6, _, by omega, rfl, rfl, HN.out, hb.trans (hA.mono hb.size), HRs.out.below hA, HRk.out.below hA⟩
          case measure => simp [intOf]
        · rw [show (7 : Int) - ((6 : Nat) : Int) = 1 from rfl]
          obtain ⟨y, hy⟩ : ∃ y : UInt8, y = (m / 2 ^ 8).toUInt8 := ⟨_, rfl⟩
          have hyz : (m : Int) / 256 % 256 = (y.toNat : Int) := by rw [hy]; simp
          have hcv : (convert 52 9 (.slice (some ⟨wr.heap.size, 0, none⟩) 1 1)).run Tryd.prog (wr.alloc (.cells #[.int .u8 (y.toNat : Int)] 5)) = .ok (.string (str [y])) (wr.alloc (.cells #[.int .u8 (y.toNat : Int)] 5)) := conv_built wr [y] (by simp)
          have hadd : ∀ w, Sem.run Tryd.prog (Op.stringOp .add x (str [y])) w = .ok (.string (x ++ str [y])) w := fun w => run_string_add_sum w _ _ (by rw [str_size]; show x.size + 1 ≤ _; omega)
          have HN : Hid (x ++ str [y] = str (padded l (noughts n) ++ (count m).take 7)) := Lib.hid (by rw [HX.out, str_snoc, hy, List.append_assoc]; rfl)
          have hA : Below wr.heap.size wr (wr.alloc (.cells #[.int .u8 (y.toNat : Int)] 5)) := (Below.refl _ _).alloc (Nat.le_refl _) _
          clear hy
          go_wp2
          go_roundw
          case rel => exact ⟨7, _, by omega, rfl, rfl, HN.out, hb.trans (hA.mono hb.size), HRs.out.below hA, HRk.out.below hA⟩
          case measure => simp [intOf]
        · rw [show (7 : Int) - ((7 : Nat) : Int) = 0 from rfl]
          obtain ⟨y, hy⟩ : ∃ y : UInt8, y = (m / 2 ^ 0).toUInt8 := ⟨_, rfl⟩
          have hyz : (m : Int) % 256 = (y.toNat : Int) := by rw [hy]; simp
          have hcv : (convert 52 9 (.slice (some ⟨wr.heap.size, 0, none⟩) 1 1)).run Tryd.prog (wr.alloc (.cells #[.int .u8 (y.toNat : Int)] 5)) = .ok (.string (str [y])) (wr.alloc (.cells #[.int .u8 (y.toNat : Int)] 5)) := conv_built wr [y] (by simp)
          have hadd : ∀ w, Sem.run Tryd.prog (Op.stringOp .add x (str [y])) w = .ok (.string (x ++ str [y])) w := fun w => run_string_add_sum w _ _ (by rw [str_size]; show x.size + 1 ≤ _; omega)
          have HN : Hid (x ++ str [y] = str (padded l (noughts n) ++ (count m).take 8)) := Lib.hid (by rw [HX.out, str_snoc, hy, List.append_assoc]; simp [count])
          have hA : Below wr.heap.size wr (wr.alloc (.cells #[.int .u8 (y.toNat : Int)] 5)) := (Below.refl _ _).alloc (Nat.le_refl _) _
          clear hy
          go_wp2
          go_roundw
          case rel => exact ⟨8, _, by omega, rfl, rfl, HN.out, hb.trans (hA.mono hb.size), HRs.out.below hA, HRk.out.below hA⟩
          case measure => simp [intOf]
        · rw [show (7 : Int) - ((8 : Nat) : Int) = -1 from rfl]
          have HXL : Hid (x.data.toList = l ++ ending l.length) := Lib.hid (by
            rw [HX.out, str_toList, HLl.out, ending, HMm.out]; simp [padded, count])
          have hxl : x.size = n + (ending n).length := by rw [← size_list, HXL.out, List.length_append, HLl.out]
          have hwh := ending_whole n
          have hel := ending_len n
          obtain ⟨M, hM⟩ : ∃ M, x.size = 64 * M := ⟨x.size / 64, by omega⟩
          have HM : Hid (M = (n + (ending n).length) / 64) := Lib.hid (by omega)
          have hMn : M ≤ 9007199254740994 := by omega
          have HMx := Lib.hid hM
          obtain ⟨L, hL⟩ : ∃ L, x.data.toList = L := ⟨_, rfl⟩
          rw [hL] at HXL
          have HL := Lib.hid hL
          clear hxl hwh hel hM hL HX hxs
          go_wp2
          go_loopw [3, 8] (fun v i wr => ∃ (j a g c : Nat), j ≤ M ∧ a = 64 * j ∧ i = .int .i64 (a : Int) ∧ v = .slice (some ⟨g, 0, none⟩) 8 c ∧ Reads wr g (comps squares L j).list ∧ Reads wr (w.heap.size + 1) cubes ∧ Below w.heap.size w wr) (fun _ i _ => x.size - (intOf i).toNat)
          case atStart => exact ⟨0, 0, w.heap.size, 8, Nat.zero_le _, rfl, rfl, rfl, HRs.out, HRk.out, hb⟩
          case round =>
            clear hb HRs HRk
            obtain ⟨j, a, g, c, hj, ha, rfl, rfl, hRg, hRk, hb⟩ := hrel
            have HA := Lib.hid ha
            clear ha
            by_cases hlt : j < M
            · have hax : (a : Int) < (x.size : Int) := by have := HMx.out; have := HA.out; omega
              have ha64 : a + 64 ≤ x.size := by have := HMx.out; have := HA.out; omega
              have ha64z : (a : Int) + 64 ≤ (x.size : Int) := by omega
              have haz : (a : Int) ≤ 576460752303423616 := by have := HA.out; omega
              have ha0 : (a : Int) ≤ (a : Int) + 64 := by omega
              have hxn : (x.extract a (a + 64)).size = 64 := by rw [ByteArray.size_extract]; omega
              have hxd : (x.extract a (a + 64)).data.toList = (L.drop (64 * j)).take 64 := by rw [Lib.extract_data, HL.out, HA.out, show 64 * j + 64 - 64 * j = 64 by omega]
              have HBl := Lib.hid (rblock_any (comps squares L j) (comps_ok squares_ok _ _) (x.extract a (a + 64)) hxn g c (w.heap.size + 1) wr hRg hRk)
              rw [hxd] at HBl
              have HRk := Lib.hid hRk
              clear hxn hxd hRg hRk
              go_wp2_with fail
              refine HBl.out.mono ?_
              rintro e w2 ⟨⟨g2, c2, rfl, hR2⟩, hb2⟩
              go_wp2
              go_roundw
              case rel => exact ⟨j + 1, a + 64, g2, c2, by omega, by have := HA.out; omega, by go_num, rfl, hR2, HRk.out.below hb2, hb.trans (hb2.mono hb.size)⟩
              case measure => simp [intOf]; omega
            · have hj' : j = M := by omega
              have hax : ¬ (a : Int) < (x.size : Int) := by have := HMx.out; have := HA.out; omega
              obtain ⟨U, hU⟩ : ∃ U, comps squares L j = U := ⟨_, rfl⟩
              have HF : Hid (U.bytes = sumL l) := Lib.hid (by rw [← hU, hj', HM.out, HXL.out, sumL, HLl.out])
              have hUok : U.ok := by rw [← hU]; exact comps_ok squares_ok _ _
              rw [hU] at hRg
              have HRg := Lib.hid hRg
              have HL8 : Hid (∀ k, k < 8 → U.list.getD k 0 < 4294967296 ∧ U.list.take (k + 1) = U.list.take k ++ [U.list.getD k 0]) := Lib.hid (by
                obtain ⟨l0, l1, l2, l3, l4, l5, l6, l7⟩ := hUok
                intro k hk
                obtain rfl | rfl | rfl | rfl | rfl | rfl | rfl | rfl : k = 0 ∨ k = 1 ∨ k = 2 ∨ k = 3 ∨ k = 4 ∨ k = 5 ∨ k = 6 ∨ k = 7 := by omega
                all_goals exact ⟨by assumption, rfl⟩)
              have HB0 := Lib.hid hb
              clear hj' hU hUok hRg hRk hb
              go_wp2
              go_loopw [9, 10] (fun v i wr => ∃ (k : Nat) (x : ByteArray), k ≤ 8 ∧ i = .int .i64 k ∧ v = .string x ∧ x = str ((U.list.take k).flatMap four) ∧ x.size = 4 * k ∧ Reads wr g U.list ∧ Below w.heap.size w wr) (fun _ i _ => 8 - (intOf i).toNat)
              case atStart => exact ⟨0, _, Nat.zero_le _, rfl, rfl, rfl, rfl, HRg.out, HB0.out⟩
              case round =>
                clear HRg HB0 hax hlt hj
                obtain ⟨k, z, hk, rfl, rfl, hz, hzs, hRg, hb⟩ := hrel
                have HZ := Lib.hid hz
                clear hz
                by_cases hlt : k < 8
                · have hltz : (k : Int) < 8 := by omega
                  obtain ⟨hlx, htk⟩ := HL8.out k hlt
                  have ck := hRg.2 k hlt
                  obtain ⟨X, hX⟩ : ∃ X, U.list.getD k 0 = X := ⟨_, rfl⟩
                  rw [hX] at hlx htk ck
                  obtain ⟨b3, h3⟩ : ∃ b : UInt8, b = (X / 16777216).toUInt8 := ⟨_, rfl⟩
                  obtain ⟨b2, h2⟩ : ∃ b : UInt8, b = (X / 65536).toUInt8 := ⟨_, rfl⟩
                  obtain ⟨b1, h1⟩ : ∃ b : UInt8, b = (X / 256).toUInt8 := ⟨_, rfl⟩
                  obtain ⟨b0, h0⟩ : ∃ b : UInt8, b = X.toUInt8 := ⟨_, rfl⟩
                  have e3 : IntKind.u8.wrap ((X : Int) / 16777216) = (b3.toNat : Int) := by rw [h3, IntKind.wrap_u8']; simp
                  have e2 : IntKind.u8.wrap ((X : Int) / 65536) = (b2.toNat : Int) := by rw [h2, IntKind.wrap_u8']; simp
                  have e1 : IntKind.u8.wrap ((X : Int) / 256) = (b1.toNat : Int) := by rw [h1, IntKind.wrap_u8']; simp
                  have e0 : IntKind.u8.wrap (X : Int) = (b0.toNat : Int) := by rw [h0, IntKind.wrap_u8']; simp
                  have HN : Hid (z ++ str [b3, b2, b1, b0] = str ((U.list.take (k + 1)).flatMap four)) := Lib.hid (by rw [htk, List.flatMap_append, ← str_snoc, ← HZ.out, h3, h2, h1, h0]; rfl)
                  have HNs : Hid ((z ++ str [b3, b2, b1, b0]).size = 4 * (k + 1)) := Lib.hid (by rw [ByteArray.size_append, hzs, str_size]; show 4 * k + 4 = _; omega)
                  have hcv : (convert 52 9 (.slice (some ⟨wr.heap.size, 0, none⟩) 4 4)).run Tryd.prog (World.drew (wr.alloc (.cells #[.int .u8 (b3.toNat : Int), .int .u8 (b2.toNat : Int), .int .u8 (b1.toNat : Int), .int .u8 (b0.toNat : Int)] 5))) = .ok (.string (str [b3, b2, b1, b0])) (World.drew (wr.alloc (.cells #[.int .u8 (b3.toNat : Int), .int .u8 (b2.toNat : Int), .int .u8 (b1.toNat : Int), .int .u8 (b0.toNat : Int)] 5))) := conv_built wr.drew [b3, b2, b1, b0] (by simp)
                  have hadd : ∀ w, Sem.run Tryd.prog (Op.stringOp .add z (str [b3, b2, b1, b0])) w = .ok (.string (z ++ str [b3, b2, b1, b0])) w := fun w => run_string_add_sum w _ _ (by rw [str_size, hzs]; show 4 * k + 4 ≤ _; omega)
                  have hA : Below wr.heap.size wr (World.drew (wr.alloc (.cells #[.int .u8 (b3.toNat : Int), .int .u8 (b2.toNat : Int), .int .u8 (b1.toNat : Int), .int .u8 (b0.toNat : Int)] 5))) := ((Below.refl _ _).alloc (Nat.le_refl _) _).drew
                  have ckA := (hA.cell (p := ⟨g, k, none⟩) hRg.1).trans ck
                  clear hX htk h3 h2 h1 h0 hzs
                  go_wp2_with fail
                  refine wp_region_held_drew (S := fun q => q.cell? ⟨g, k, none⟩ = some (.int .u32 (X : Int))) (by kernel_rfl) ck (fun hHeld => ?_)
                  (refine wpAnyH_take (i := 0) (v := ?_) rfl (by kernel_rfl) (by kernel_rfl) (by kernel_rfl) (fun _ _ _ h => h) (Or.inl ⟨by rfl, ?_⟩) hHeld ?_; rotate_left; focus (intro w hSw; (try dsimp only at hSw); go_simp; try with_reducible rfl))
                  (refine wpAnyH_take (i := 1) (v := ?_) rfl (by kernel_rfl) (by kernel_rfl) (by kernel_rfl) (fun _ _ _ h => h) (Or.inl ⟨by rfl, ?_⟩) hHeld ?_; rotate_left; focus (intro w hSw; (try dsimp only at hSw); go_simp; try with_reducible rfl))
                  (refine wpAnyH_take (i := 2) (v := ?_) rfl (by kernel_rfl) (by kernel_rfl) (by kernel_rfl) (fun _ _ _ h => h) (Or.inl ⟨by rfl, ?_⟩) hHeld ?_; rotate_left; focus (intro w hSw; (try dsimp only at hSw); go_simp; try with_reducible rfl))
                  (refine wpAnyH_take (i := 3) (v := ?_) rfl (by kernel_rfl) (by kernel_rfl) (by kernel_rfl) (fun _ _ _ h => h) (Or.inl ⟨by rfl, ?_⟩) hHeld ?_; rotate_left; focus (intro w hSw; (try dsimp only at hSw); go_simp; try with_reducible rfl))
                  (refine wpAnyH_take (i := 4) (v := ?_) rfl (by kernel_rfl) (by kernel_rfl) (by kernel_rfl) (fun _ _ _ h => h) (Or.inl ⟨by rfl, ?_⟩) hHeld ?_; rotate_left; focus (intro w hSw; (try dsimp only at hSw); go_simp; try with_reducible rfl))
                  (refine wpAnyH_take (i := 5) (v := ?_) rfl (by kernel_rfl) (by kernel_rfl) (by kernel_rfl) (fun _ _ _ h => h) (Or.inl ⟨by rfl, ?_⟩) hHeld ?_; rotate_left; focus (intro w hSw; (try dsimp only at hSw); go_simp; try with_reducible rfl))
                  (refine wpAnyH_take (i := 6) (v := ?_) rfl (by kernel_rfl) (by kernel_rfl) (by kernel_rfl) (fun _ _ _ h => h) (Or.inl ⟨by rfl, ?_⟩) hHeld ?_; rotate_left; focus (intro w hSw; (try dsimp only at hSw); go_simp; try with_reducible rfl))
                  (refine wpAnyH_take (i := 7) (v := ?_) rfl (by kernel_rfl) (by kernel_rfl) (by kernel_rfl) (fun _ _ _ h => h) (Or.inl ⟨by rfl, ?_⟩) hHeld ?_; rotate_left; focus (intro w hSw; (try dsimp only at hSw); go_simp; try with_reducible rfl))
                  (refine wpAnyH_take (i := 8) (v := ?_) rfl (by kernel_rfl) (by kernel_rfl) (by kernel_rfl) (fun _ _ _ h => h) (Or.inl ⟨by rfl, ?_⟩) hHeld ?_; rotate_left; focus (intro w hSw; (try dsimp only at hSw); go_simp; try with_reducible rfl))
                  (refine wpAnyH_take (i := 9) (v := ?_) rfl (by kernel_rfl) (by kernel_rfl) (by kernel_rfl) (fun _ _ _ h => h) (Or.inl ⟨by rfl, ?_⟩) hHeld ?_; rotate_left; focus (intro w hSw; (try dsimp only at hSw); go_simp; try with_reducible rfl))
                  (refine wpAnyH_take (i := 10) (v := ?_) rfl (by kernel_rfl) (by kernel_rfl) (by kernel_rfl) (fun _ _ _ h => h) (Or.inl ⟨by rfl, ?_⟩) hHeld ?_; rotate_left; focus (intro w hSw; (try dsimp only at hSw); go_simp; try with_reducible rfl))
                  (refine wpAnyH_take (i := 11) (v := ?_) rfl (by kernel_rfl) (by kernel_rfl) (by kernel_rfl) (fun _ _ _ h => h) (Or.inl ⟨by rfl, ?_⟩) hHeld ?_; rotate_left; focus (intro w hSw; (try dsimp only at hSw); go_simp; try with_reducible rfl))
                  (refine wpAnyH_take (i := 12) (v := ?_) rfl (by kernel_rfl) (by kernel_rfl) (by kernel_rfl) (fun _ _ _ h => h) (Or.inl ⟨by rfl, ?_⟩) hHeld ?_; rotate_left; focus (intro w hSw; (try dsimp only at hSw); go_simp; try with_reducible rfl))
                  (refine wpAnyH_take (i := 13) (v := ?_) rfl (by kernel_rfl) (by kernel_rfl) (by kernel_rfl) (fun _ _ _ h => h) (Or.inl ⟨by rfl, ?_⟩) hHeld ?_; rotate_left; focus (intro w hSw; (try dsimp only at hSw); go_simp; try with_reducible rfl))
                  (refine wpAnyH_take (i := 14) (v := ?_) rfl (by kernel_rfl) (by kernel_rfl) (by kernel_rfl) (fun _ _ _ h => h) (Or.inl ⟨by rfl, ?_⟩) hHeld ?_; rotate_left; focus (intro w hSw; (try dsimp only at hSw); go_simp; try with_reducible rfl))
                  (refine wpAnyH_take (i := 15) (v := ?_) rfl (by kernel_rfl) (by kernel_rfl) (by kernel_rfl) (fun _ _ _ h => h) (Or.inl ⟨by rfl, ?_⟩) hHeld ?_; rotate_left; focus (intro w hSw; (try dsimp only at hSw); go_simp; try with_reducible rfl))
                  (refine wpAnyH_take (i := 16) (v := ?_) rfl (by kernel_rfl) (by kernel_rfl) (by kernel_rfl) (fun _ _ _ h => h) (Or.inl ⟨by rfl, ?_⟩) hHeld ?_; rotate_left; focus (intro w hSw; (try dsimp only at hSw); go_simp; try with_reducible rfl))
                  (refine wpAnyH_take (i := 17) (v := ?_) rfl (by kernel_rfl) (by kernel_rfl) (by kernel_rfl) (fun _ _ _ h => h) (Or.inl ⟨by rfl, ?_⟩) hHeld ?_; rotate_left; focus (intro w hSw; (try dsimp only at hSw); go_simp; try with_reducible rfl))
                  (refine wpAnyH_take (i := 18) (v := ?_) rfl (by kernel_rfl) (by kernel_rfl) (by kernel_rfl) (fun _ _ _ h => h) (Or.inl ⟨by rfl, ?_⟩) hHeld ?_; rotate_left; focus (intro w hSw; (try dsimp only at hSw); go_simp; try with_reducible rfl))
                  (refine wpAnyH_take (i := 19) (v := ?_) rfl (by kernel_rfl) (by kernel_rfl) (by kernel_rfl) (fun _ _ _ h => h) (Or.inl ⟨by rfl, ?_⟩) hHeld ?_; rotate_left; focus (intro w hSw; (try dsimp only at hSw); go_simp; try with_reducible rfl))
                  (refine wpAnyH_take (i := 20) (v := ?_) rfl (by kernel_rfl) (by kernel_rfl) (by kernel_rfl) (fun _ _ _ h => h) (Or.inl ⟨by rfl, ?_⟩) hHeld ?_; rotate_left; focus (intro w hSw; (try dsimp only at hSw); go_simp; try with_reducible rfl))
                  (refine wpAnyH_take (i := 21) (v := ?_) rfl (by kernel_rfl) (by kernel_rfl) (by kernel_rfl) (fun _ _ _ h => h) (Or.inl ⟨by rfl, ?_⟩) hHeld ?_; rotate_left; focus (intro w hSw; (try dsimp only at hSw); go_simp; try with_reducible rfl))
                  (refine wpAnyH_take (i := 22) (v := ?_) rfl (by kernel_rfl) (by kernel_rfl) (by kernel_rfl) (fun _ _ _ h => h) (Or.inl ⟨by rfl, ?_⟩) hHeld ?_; rotate_left; focus (intro w hSw; (try dsimp only at hSw); go_simp; try with_reducible rfl))
                  (refine wpAnyH_take (i := 23) (v := ?_) rfl (by kernel_rfl) (by kernel_rfl) (by kernel_rfl) (fun _ _ _ h => h) (Or.inl ⟨by rfl, ?_⟩) hHeld ?_; rotate_left; focus (intro w hSw; (try dsimp only at hSw); go_simp; try with_reducible rfl))
                  (refine wpAnyH_ready (rs := [24]) (by kernel_rfl) (by simp) ?_; refine AllReadyH.cons rfl (fun K hK => ?_) AllReadyH.nil; go_simp; refine hK.out _ _ ckA (fun hHeld => ?_); clear hK K)
                  (refine wpAnyH_ready (rs := [25]) (by kernel_rfl) (by simp) ?_; refine AllReadyH.cons rfl (fun K hK => ?_) AllReadyH.nil; go_simp; refine hK.out _ _ ckA (fun hHeld => ?_); clear hK K)
                  (refine wpAnyH_take (i := 26) (v := ?_) rfl (by kernel_rfl) (by kernel_rfl) (by kernel_rfl) (fun _ _ _ h => h) (Or.inl ⟨by rfl, ?_⟩) hHeld ?_; rotate_left; focus (intro w hSw; (try dsimp only at hSw); go_simp; try with_reducible rfl))
                  (refine wpAnyH_take (i := 27) (v := ?_) rfl (by kernel_rfl) (by kernel_rfl) (by kernel_rfl) (fun _ _ _ h => h) (Or.inl ⟨by rfl, ?_⟩) hHeld ?_; rotate_left; focus (intro w hSw; (try dsimp only at hSw); go_simp; try with_reducible rfl))
                  refine wpAnyH_done (by kernel_rfl) ?_ _
                  clear hcv hadd e0 e1 e2 e3 hHeld ckA
                  go_wp2
                  go_roundw
                  case rel => exact ⟨k + 1, _, by omega, by go_num, rfl, HN.out, HNs.out, hRg.below hA, hb.trans (hA.mono hb.size)⟩
                  case measure => simp [intOf]; omega
                · have hk8 : k = 8 := by omega
                  have hnz : ¬ (k : Int) < 8 := by omega
                  have e : z = str (sumL l) := by rw [HZ.out, hk8, ← HF.out]; rfl
                  subst e
                  clear hk8
                  go_wp2
                  go_ret
                  exact ⟨rfl, hb⟩
end Go.Proofs.YthopegokjbibmaaDoor.Sha
