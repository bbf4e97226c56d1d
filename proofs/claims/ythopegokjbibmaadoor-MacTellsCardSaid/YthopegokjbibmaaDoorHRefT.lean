/- The document's own answer to chapter 6: what its turn tells; rows of bytes that have just been built; of memory that was there nothing turns. -/
import Derived.Test.YthopegokjbibmaaDoorHSum
namespace Go.Proofs.YthopegokjbibmaaDoor.Sha
open Go.RowKit

theorem rot_int' (x : Nat) (k : Nat) (hx : x < 4294967296) : bits .or .u32 ((x : Int) / 2 ^ k) ((x : Int) * 2 ^ (32 - k) % 4294967296) = ((rot x k : Nat) : Int) := by
  have e1 : ((x : Int) * 2 ^ (32 - k) % 4294967296) = ((x * 2 ^ (32 - k) % 4294967296 : Nat) : Int) := by
    rw [Int.natCast_emod, Int.natCast_mul, Int.natCast_pow]; rfl
  have e2 : ((x : Int) / 2 ^ k) = ((x / 2 ^ k : Nat) : Int) := by rw [Int.natCast_ediv, Int.natCast_pow]; rfl
  rw [e1, e2, u32_or_nat _ _ (div_lt hx) mod_lt, Nat.or_comm]
  rfl
set_option maxHeartbeats 1000000 in
theorem rturn_any (x : Nat) (hx : x < 4294967296) (K : Int) (h0 : 0 < K) (h : K < 32) (w : World) :
    Calls Tryd.prog 67 #[.int .u32 x, .int .i64 K] w fun e w' => e = .returned (.int .u32 (rot x K.toNat : Nat)) ∧ ∃ n, w' = w.drewN n := by
  obtain ⟨k, rfl⟩ : ∃ k : Nat, K = (k : Int) := ⟨K.toNat, by omega⟩
  have HR := Lib.hid (rot_int' x k hx)
  go_enter Tryd.func67, Tryd.ntmps67
  go_wp2
  go_quiet (fail)
  go_wp2
  go_ret
  exact ⟨ret_int (by rw [Int.toNat_natCast]; exact HR.out), nq, rfl⟩
set_option maxRecDepth 100000 in
/-- A row of bytes that has just been built, as a text. -/
theorem conv_built (w : World) (l : List UInt8) (hl : l.length ≤ 9223372036854775807) : (convert 52 9 (.slice (some ⟨w.heap.size, 0, none⟩) l.length l.length)).run Tryd.prog (w.alloc (.cells (vals l).toArray 5)) = .ok (.string (str l)) (w.alloc (.cells (vals l).toArray 5)) := by
  have := World.ownsRow_lit (base := w.heap.size) (e := 5) (size := 1) w (vals l).toArray l.length (Nat.le_refl _) hl (by rw [List.size_toArray, vals_length, Nat.mul_one])
  rw [List.toList_toArray] at this
  exact conv_owns this
theorem str_snoc (l m : List UInt8) : (str l ++ str m : ByteArray) = str (l ++ m) := by
  apply ByteArray.ext
  apply Array.toList_inj.1
  simp [str]
theorem byte_of (s : ByteArray) (k : Nat) (h : k < s.size) : s.data.toList[k]? = some s[k] := by
  rw [List.getElem?_eq_getElem (by rw [size_list]; exact h)]; rfl

end Go.Proofs.YthopegokjbibmaaDoor.Sha
