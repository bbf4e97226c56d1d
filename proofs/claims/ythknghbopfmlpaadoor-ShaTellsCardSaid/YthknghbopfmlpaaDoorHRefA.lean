/- The document's own answer to chapter 6: what its turn, digit, Hex and Parse tell; of memory that was there nothing turns. -/
import Derived.Test.YthknghbopfmlpaaDoorHExamples
namespace Go.Proofs.YthknghbopfmlpaaDoor.Sha
open Go.RowKit

theorem rot_int' (x : Nat) (k : Nat) (hx : x < 4294967296) : bits .or .u32 ((x : Int) / 2 ^ k) ((x : Int) * 2 ^ (32 - k) % 4294967296) = ((rot x k : Nat) : Int) := by
  have e1 : ((x : Int) * 2 ^ (32 - k) % 4294967296) = ((x * 2 ^ (32 - k) % 4294967296 : Nat) : Int) := by
    rw [Int.natCast_emod, Int.natCast_mul, Int.natCast_pow]; rfl
  have e2 : ((x : Int) / 2 ^ k) = ((x / 2 ^ k : Nat) : Int) := by rw [Int.natCast_ediv, Int.natCast_pow]; rfl
  rw [e1, e2, u32_or_nat _ _ (div_lt hx) mod_lt, Nat.or_comm]
  rfl
set_option maxHeartbeats 1000000 in
theorem rturn_any (x : Nat) (hx : x < 4294967296) (K : Int) (h0 : 0 < K) (h : K < 32) (w : World) :
    Calls Tryd.prog 23 #[.int .u32 x, .int .i64 K] w fun e w' => e = .returned (.int .u32 (rot x K.toNat : Nat)) ∧ ∃ n, w' = w.drewN n := by
  obtain ⟨k, rfl⟩ : ∃ k : Nat, K = (k : Int) := ⟨K.toNat, by omega⟩
  have HR := Lib.hid (rot_int' x k hx)
  go_enter Tryd.func23, Tryd.ntmps23
  go_wp2
  go_quiet (fail)
  go_wp2
  go_ret
  exact ⟨ret_int (by rw [Int.toNat_natCast]; exact HR.out), nq, rfl⟩
set_option maxHeartbeats 1000000 in
theorem digit_any (n : Nat) (hn : n < 16) (w : World) :
    Calls Tryd.prog 16 #[.int .u8 n] w fun e w' => e = .returned (.int .u8 ((dig n).toNat : Int)) ∧ w = w' := by
  have hn1 : (n : Int) < 16 := by omega
  by_cases h : n < 10
  · have hz : (n : Int) < 10 := by omega
    have HE : Hid (((dig n).toNat : Int) = 48 + (n : Int)) := Lib.hid (by unfold dig; rw [if_pos h]; simp; omega)
    go_enter Tryd.func16, Tryd.ntmps16
    go_wp2
    go_ret
    exact ⟨ret_int (by rw [HE.out]), rfl⟩
  · have hz : ¬ (n : Int) < 10 := by omega
    have HE : Hid (((dig n).toNat : Int) = 97 + (n : Int) - 10) := Lib.hid (by unfold dig; rw [if_neg h]; simp; omega)
    go_enter Tryd.func16, Tryd.ntmps16
    go_wp2
    go_ret
    exact ⟨ret_int (by rw [HE.out]), rfl⟩
set_option maxRecDepth 100000 in
/-- A row of bytes that has just been built, as a text. -/
theorem conv_built (w : World) (l : List UInt8) (hl : l.length ≤ 9223372036854775807) : (convert 27 9 (.slice (some ⟨w.heap.size, 0, none⟩) l.length l.length)).run Tryd.prog (w.alloc (.cells (vals l).toArray 5)) = .ok (.string (str l)) (w.alloc (.cells (vals l).toArray 5)) := by
  have := World.ownsRow_lit (base := w.heap.size) (e := 5) (size := 1) w (vals l).toArray l.length (Nat.le_refl _) hl (by rw [List.size_toArray, vals_length, Nat.mul_one])
  rw [List.toList_toArray] at this
  exact conv_owns this
theorem str_snoc (l m : List UInt8) : (str l ++ str m : ByteArray) = str (l ++ m) := by
  apply ByteArray.ext
  apply Array.toList_inj.1
  simp [str]
set_option maxHeartbeats 2000000 in
set_option maxRecDepth 100000 in
theorem rhex_any (s : ByteArray) (hs : s.size ≤ 140737488355328) (w : World) :
    Calls Tryd.prog 14 #[.string s] w fun e w' => e = .returned (.string (str (hexL s.data.toList))) ∧ Below w.heap.size w w' := by
  go_enter Tryd.func14, Tryd.ntmps14
  go_wp2
  go_loopw [3, 4] (fun v i wr => ∃ (k : Nat) (x : ByteArray), k ≤ s.size ∧ i = .int .i64 k ∧ v = .string x ∧ x = str (hexL (s.data.toList.take k)) ∧ Below w.heap.size w wr) (fun _ i _ => s.size - (intOf i).toNat)
  case atStart => exact ⟨0, _, Nat.zero_le _, rfl, rfl, rfl, Below.refl _ _⟩
  case round =>
    obtain ⟨k, x, hk, rfl, rfl, hx, hb⟩ := hrel
    by_cases hlt : k < s.size
    · have hltz : (k : Int) < (s.size : Int) := by omega
      have hts := take_snoc s k hlt
      obtain ⟨d, hd⟩ : ∃ d, s[k] = d := ⟨_, rfl⟩
      rw [hd] at hts
      have hc : d.toNat < 256 := UInt8.toNat_lt _
      obtain ⟨a, ha⟩ : ∃ a, d.toNat / 16 = a := ⟨_, rfl⟩
      obtain ⟨b, hbb⟩ : ∃ b, d.toNat % 16 = b := ⟨_, rfl⟩
      have haz : (d.toNat : Int) / 16 = (a : Int) := by omega
      have hbz : (d.toNat : Int) % 16 = (b : Int) := by omega
      have hat : (d.toNat : Int).tdiv 16 = (a : Int) := by rw [Int.tdiv_eq_ediv_of_nonneg (by omega)]; exact haz
      have hbt : (d.toNat : Int).tmod 16 = (b : Int) := by rw [Int.tmod_eq_emod_of_nonneg (by omega)]; exact hbz
      have hwa : IntKind.u8.wrap (a : Int) = (a : Int) := by rw [IntKind.wrap_u8']; omega
      have hwb : IntKind.u8.wrap (b : Int) = (b : Int) := by rw [IntKind.wrap_u8']; omega
      have D1 := Lib.hid (digit_any a (by omega))
      have D2 := Lib.hid (digit_any b (by omega))
      obtain ⟨da, hda⟩ : ∃ x, dig a = x := ⟨_, rfl⟩
      obtain ⟨db, hdb⟩ : ∃ x, dig b = x := ⟨_, rfl⟩
      rw [hda] at D1
      rw [hdb] at D2
      have HN : Hid (x ++ str [da, db] = str (hexL (s.data.toList.take (k + 1)))) := Lib.hid (by rw [hx, str_snoc, hts, hexL_snoc, ha, hbb, hda, hdb])
      have hxs : x.size = 2 * k := by rw [hx, str_size, hexL_len, List.length_take, size_list]; omega
      have hcv := conv_built wr.drew [da, db] (by simp)
      have hcv' : (convert 27 9 (.slice (some ⟨wr.heap.size, 0, none⟩) 2 2)).run Tryd.prog (World.drew (wr.alloc (.cells #[.int .u8 (da.toNat : Int), .int .u8 (db.toNat : Int)] 5))) = .ok (.string (str [da, db])) (World.drew (wr.alloc (.cells #[.int .u8 (da.toNat : Int), .int .u8 (db.toNat : Int)] 5))) := hcv
      have hadd : ∀ w, Sem.run Tryd.prog (Op.stringOp .add x (str [da, db])) w = .ok (.string (x ++ str [da, db])) w := fun w => run_string_add_sum w _ _ (by rw [str_size, hxs]; show 2 * k + 2 ≤ _; omega)
      clear hx hts ha hbb hda hdb hxs hcv
      go_wp2_with fail
      go_region_law (first | (go_simp; go_at_call 16; (with_reducible refine (D1.out _).mono ?_); rintro e w' ⟨rfl, rfl⟩) | (go_simp; go_at_call 16; (with_reducible refine (D2.out _).mono ?_); rintro e w' ⟨rfl, rfl⟩))
      all_goals
        clear hcv' hadd hwa hwb hat hbt haz hbz
        go_wp2
        go_roundw
        case rel => exact ⟨k + 1, _, by omega, by go_num, rfl, HN.out, (hb.alloc hb.size _).drew⟩
        case measure => simp [intOf]; omega
    · obtain rfl : k = s.size := by omega
      rw [List.take_of_length_le (by rw [size_list]; omega)] at hx
      subst hx
      go_wp2
      go_ret
      exact ⟨rfl, hb⟩
end Go.Proofs.YthknghbopfmlpaaDoor.Sha
