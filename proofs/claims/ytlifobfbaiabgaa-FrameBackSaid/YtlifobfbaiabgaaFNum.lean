/- What frame.putNumber, frame.getNumber and the document's four answer; of memory that was there nothing turns. -/
import Derived.Test.YtlifobfbaiabgaaFSum
import Derived.Laws.BytesArg
import Derived.Laws.OwnMore
import Derived.WalkLawsBesides
import Derived.Deep.RegionHeld3
namespace Go.Proofs.Ytlifobfbaiabgaa.Frame
open Go.RowKit

/-- A text of bytes, and bytes as values. -/
def str (l : List UInt8) : ByteArray := ⟨l.toArray⟩
theorem str_toList (l : List UInt8) : (str l).data.toList = l := by simp [str]
theorem str_size (l : List UInt8) : (str l).size = l.length := by simp [str, ByteArray.size]
theorem str_of (s : ByteArray) : str s.data.toList = s := by cases s with | mk d => show ByteArray.mk d.toList.toArray = _; rw [Array.toArray_toList]
theorem str_inj {a b : List UInt8} (h : str a = str b) : a = b := by rw [← str_toList a, h, str_toList]
theorem str_append (a b : List UInt8) : str a ++ str b = str (a ++ b) := by
  apply ByteArray.ext
  simp [str]
def vals (l : List UInt8) : List Value := l.map fun c => Value.int .u8 (c.toNat : Int)
theorem vals_length (a : List UInt8) : (vals a).length = a.length := by simp [vals]
theorem built (w : World) (l : List UInt8) (t : TypeId) (i : Nat) (hi : i < l.length) : (w.alloc (.cells (vals l).toArray t)).cell? ⟨w.heap.size, 0 + i, none⟩ = some (.int .u8 (((l[i]?.getD 0).toNat : Nat) : Int)) := by
  rw [cell_of_row _ _ (0 + i) (vals l).toArray t (0, 0) (heap_alloc_new w _)]
  simp [vals, hi]
theorem conv_built (w : World) (l : List UInt8) (n : Nat) (hn : n = l.length) :
    (convert 26 9 (.slice (some ⟨w.heap.size, 0, none⟩) n n)).run Try.prog (w.alloc (.cells (vals l).toArray 5)) = .ok (.string (str l)) (w.alloc (.cells (vals l).toArray 5)) := by
  subst hn
  have := run_convert_bytes_arg (P := Try.prog) (w.alloc (.cells (vals l).toArray 5)) 26 5 Try.underlying26 Try.underlying5 w.heap.size 0 l.length l.length (l.map fun c => (c.toNat : Int)) (by simp) (fun i hi => by
    rw [built _ _ _ _ hi]
    simp [hi]) 9 Try.underlying9
  rw [this]
  congr 2
  simp only [strOfNums, str, List.map_map]
  congr 1
  congr 1
  exact (List.map_congr_left fun c _ => by simp).trans (List.map_id _)
theorem four_int (n : Nat) (h : n < 4294967296) : vals (four n) = [.int .u8 ((n : Int) / 16777216), .int .u8 ((n : Int) / 65536 % 256), .int .u8 ((n : Int) / 256 % 256), .int .u8 ((n : Int) % 256)] := by
  simp [vals, four]
  omega

set_option maxHeartbeats 1000000 in
theorem putNumber_any (n : Nat) (h : n < 4294967296) (w : World) :
    Calls Try.prog 19 #[.int .u32 (n : Nat)] w fun e w' => e = .returned (.string (str (four n))) ∧ Below w.heap.size w w' := by
  have hcv := conv_built w (four n) 4 rfl
  rw [four_int n h] at hcv
  go_enter Try.func19, Try.ntmps19
  go_wp2
  go_ret
  exact ⟨rfl, (Below.refl _ _).alloc (Nat.le_refl _) _⟩

set_option maxHeartbeats 1000000 in
theorem four_any (n : Nat) (h : n < 4294967296) (w : World) :
    Calls Try.prog 21 #[.int .u32 (n : Nat)] w fun e w' => e = .returned (.string (str (four n))) ∧ Below w.heap.size w w' := by
  have hcv := conv_built w (four n) 4 rfl
  rw [four_int n h] at hcv
  go_enter Try.func21, Try.ntmps21
  go_wp2
  go_ret
  exact ⟨rfl, (Below.refl _ _).alloc (Nat.le_refl _) _⟩

/-- The number of the first so many bytes. -/
def preV (l : List UInt8) : Nat → Nat
  | 0 => 0
  | k + 1 => preV l k * 256 + (l.getD k 0).toNat
theorem preV_lt (l : List UInt8) : ∀ k, preV l k < 256 ^ k
  | 0 => by simp [preV]
  | k + 1 => by
    have := preV_lt l k
    have := (l.getD k 0).toNat_lt
    rw [preV, Nat.pow_succ]
    omega
theorem preV_four (l : List UInt8) : preV l 4 = fourV l := by simp [preV, fourV]
theorem preV_small (l : List UInt8) (k : Nat) (hk : k ≤ 3) : preV l k < 16777216 := by
  have h1 := preV_lt l k
  have : 256 ^ k ≤ 256 ^ 3 := Nat.pow_le_pow_right (by omega) hk
  omega
theorem or_byte (u : Nat) (b : UInt8) (h : u < 16777216) : bits .or .u32 ((u : Int) * 256) ((b.toNat : Int) % 4294967296) = ((u * 256 + b.toNat : Nat) : Int) := by
  have hb := b.toNat_lt
  rw [show (u : Int) * 256 = ((u * 256 : Nat) : Int) by omega, show (b.toNat : Int) % 4294967296 = (b.toNat : Int) by omega, u32_or_nat _ _ (by omega) (by omega)]
  have := Nat.two_pow_add_eq_or_of_lt (i := 8) (b := b.toNat) (by simpa using hb) u
  rw [show 2 ^ 8 * u = u * 256 by omega] at this
  rw [this]
theorem drop_at (s : ByteArray) (p k : Nat) (h : p + k < s.size) : (s.data.toList.drop p).getD k 0 = s[p + k] := by
  have h' : p + k < s.data.toList.length := by rw [size_list]; exact h
  rw [List.getD_eq_getElem?_getD, List.getElem?_drop, List.getElem?_eq_getElem h']
  rfl

set_option maxHeartbeats 1000000 in
theorem getNumber_any (s : ByteArray) (hs : s.size ≤ 4611686018427387904) (p : Nat) (hp : p + 4 ≤ s.size) (w : World) :
    Calls Try.prog 20 #[.string s, .int .i64 (p : Nat)] w fun e w' => e = .returned (.int .u32 (fourV (s.data.toList.drop p) : Nat)) ∧ w = w' := by
  have HD := Lib.hid (fun k (h : p + k < s.size) => drop_at s p k h)
  have HV : Hid (preV (s.data.toList.drop p) 4 = fourV (s.data.toList.drop p)) := Lib.hid (preV_four _)
  obtain ⟨L, hL⟩ : ∃ L, s.data.toList.drop p = L := ⟨_, rfl⟩
  rw [hL] at HD HV ⊢
  clear hL
  go_enter Try.func20, Try.ntmps20
  go_wp2
  go_loopw [4, 6] (fun v i wr => ∃ k u : Nat, k ≤ 4 ∧ i = .int .i64 k ∧ v = .int .u32 (u : Nat) ∧ u = preV L k ∧ w = wr) (fun _ i _ => 4 - (intOf i).toNat)
  case atStart => exact ⟨0, 0, Nat.zero_le _, rfl, rfl, rfl, rfl⟩
  case round =>
    obtain ⟨k, u, hk, rfl, rfl, hu, rfl⟩ := hrel
    have HU := Lib.hid hu
    clear hu
    by_cases hlt : k < 4
    · have hltz : (k : Int) < 4 := by omega
      have hlu : u < 16777216 := by rw [HU.out]; exact preV_small _ _ (by omega)
      have hpk : p + k < s.size := by omega
      have hpz : ((p : Int) + (k : Int)) < (s.size : Int) := by omega
      have HN : Hid (preV L (k + 1) = preV L k * 256 + s[p + k].toNat) := Lib.hid (by rw [preV, HD.out k hpk])
      obtain ⟨d, hd⟩ : ∃ d, s[p + k] = d := ⟨_, rfl⟩
      rw [hd] at HN
      have h1 := or_byte u d hlu
      have HY : Hid (u * 256 + d.toNat = preV L (k + 1)) := Lib.hid (by rw [HN.out, HU.out])
      obtain ⟨y, hy⟩ : ∃ y, u * 256 + d.toNat = y := ⟨_, rfl⟩
      rw [hy] at h1 HY
      clear hy
      go_wp2
      go_roundw
      case rel => exact ⟨k + 1, y, by omega, by go_num, by go_num, HY.out, trivial⟩
      case measure => simp [intOf]; omega
    · obtain rfl : k = 4 := by omega
      go_wp2
      go_ret
      exact ⟨by rw [← HV.out, ← HU.out]; rfl, rfl⟩
end Go.Proofs.Ytlifobfbaiabgaa.Frame
