/- What wire.Put answers, for every number of 64 bits: its digits of seven bits, the least first; of memory that was there nothing turns. -/
import Derived.Test.YthopegokjbibmaaDoorProg
import Derived.Test.YthopegokjbibmaaDoorMath
import Derived.WalkKit
import Derived.WalkSpells
import Derived.WalkLawsBesides
import Derived.Laws.BytesArg
import Derived.Lib.Hide
namespace Go.Proofs.YthopegokjbibmaaDoor.Wire
open Go.RowKit

theorem info5 : (Tryd.prog.info? 5).map (fun i => (i.zero, i.size, i.bytes)) = some (some (.int .u8 0), 1, 1) := by kernel_rfl

/-- Bytes as values. -/
def vals (l : List UInt8) : List Value := l.map fun c => Value.int .u8 (c.toNat : Int)
theorem vals_append (a b : List UInt8) : vals (a ++ b) = vals a ++ vals b := by simp [vals]
theorem vals_length (a : List UInt8) : (vals a).length = a.length := by simp [vals]
/-- A text of bytes. -/
def str (l : List UInt8) : ByteArray := ⟨l.toArray⟩
theorem str_toList (l : List UInt8) : (str l).data.toList = l := by simp [str]
theorem str_size (l : List UInt8) : (str l).size = l.length := by simp [str, ByteArray.size]

set_option maxRecDepth 100000 in
theorem conv_own {w : World} {B : Nat} {v : Value} {l : List UInt8} {n : Nat} (hn : n = l.length) (h : w.ownsRow B 5 1 v n (vals l)) (hl : 0 < l.length) :
    (convert 52 9 v).run Tryd.prog w = .ok (.string (str l)) w := by
  subst hn
  have h' := h
  rcases h.2 with ⟨rfl, h0⟩ | ⟨g, cap, cur, rfl, _⟩
  · omega
  have := run_convert_bytes_arg (P := Tryd.prog) w 52 5 Tryd.underlying52 Tryd.underlying5 g 0 l.length cap (l.map fun c => (c.toNat : Int)) (by simp) (fun i hi => by
    rw [Nat.zero_add, h'.cellAt i (by simpa using hi)]
    simp [vals, hi]) 9 Tryd.underlying9
  rw [this]
  congr 2
  simp only [strOfNums, str, List.map_map]
  congr 1
  congr 1
  exact (List.map_congr_left fun c _ => by simp).trans (List.map_id _)

set_option maxRecDepth 100000 in
theorem or_hi : ∀ m : Nat, m < 256 → m ||| 128 = m % 128 + 128 := by decide
theorem u8_or_hi (n : Nat) : bits .or .u8 ((n : Int) % 256) 128 = ((UInt8.ofNat (n % 128 + 128)).toNat : Int) := by
  have h := u8_or_nat (n % 256) 128 (by omega) (by omega)
  rw [or_hi _ (by omega)] at h
  rw [byte_hi, show (n : Int) % 256 = ((n % 256 : Nat) : Int) from by omega]
  refine h.trans ?_
  omega

theorem own_last {w : World} {B n : Nat} {v : Value} {xs : List UInt8} (h128 : n < 128) (h : w.ownsRow B 5 1 v (xs.length + 1) (vals xs ++ [.int .u8 (n : Int)])) :
    w.ownsRow B 5 1 v (xs ++ putL n).length (vals (xs ++ putL n)) := by
  rw [putL_lt h128, vals_append]
  simpa [vals, byte_lo h128] using h
theorem own_more {w : World} {B : Nat} {c : UInt8} {v : Value} {xs : List UInt8} (h : w.ownsRow B 5 1 v (xs.length + 1) (vals xs ++ [.int .u8 (c.toNat : Int)])) :
    w.ownsRow B 5 1 v (xs ++ [c]).length (vals (xs ++ [c])) := by
  rw [vals_append]
  simpa [vals] using h

set_option maxRecDepth 100000 in
set_option maxHeartbeats 1000000 in
theorem put_any (U : Nat) (hU : U < 18446744073709551616) (w : World) :
    Calls Tryd.prog 43 #[.int .u64 U] w fun e w' => e = .returned (.string (str (putL U))) ∧ Below w.heap.size w w' := by
  obtain ⟨i0, hi, hz0, hz1, hz2⟩ := info_parts info5
  have hten := putL_ten hU
  go_enter Tryd.func43, Tryd.ntmps43
  go_wp2
  go_loopw [0, 3] (fun u v wr => ∃ (n : Nat) (xs : List UInt8), n < 18446744073709551616 ∧ u = .int .u64 n ∧ wr.ownsRow w.heap.size 5 1 v xs.length (vals xs) ∧ putL U = xs ++ putL n ∧ Below w.heap.size w wr)
    (fun u _ _ => (intOf u).toNat)
  case atStart => exact ⟨U, [], hU, rfl, World.ownsRow_nil _ _ _ _, rfl, Below.refl _ _⟩
  case round =>
    obtain ⟨n, xs, hn, rfl, hown, hput, hb⟩ := hrel
    have HP := Lib.hid hput
    have hlen : xs.length + 1 ≤ 10 := by have := congrArg List.length hput; have := putL_pos n; simp at *; omega
    clear hput
    by_cases h128 : n < 128
    · go_wp2_with (at_builtin; refine wpList_append_own _ rfl _ _ 52 rfl w.heap.size 5 i0 (.int .u8 0) 1 1 Tryd.underlying52 hi hz0 hz1 hz2 rfl (by decide) _ _ _ rfl (hown.alloc _) ⟨wr.heap.size, 0, none⟩ 1 1 [.int .u8 (n : Int)] rfl rfl ?c1 ?c2 ?c3 ?c4 ?c5 ?_)
      case c1 => exact cell_one_new _ _ _
      case c2 => intro u hu; simp at hu; subst hu; rfl
      case c3 => unfold maxLen; omega
      case c4 => omega
      case c5 => have := hb.size; simp; omega
      intro v' w1 hown' hgrow _
      have hconv := conv_own (l := xs ++ putL n) rfl (own_last h128 hown') (by have := putL_pos n; simp; omega)
      rw [← HP.out] at hconv
      have hb' : Below w.heap.size w w1 := (hb.alloc hb.size _).grown hgrow (by have := hb.size; simp; omega) (fun k hk => (hown.lt k hk).1)
      clear hown hown' hgrow
      go_wp2
      go_ret
      exact ⟨rfl, hb'⟩
    · have hbits := u8_or_hi n
      obtain ⟨c, hc⟩ : ∃ c, c = UInt8.ofNat (n % 128 + 128) := ⟨_, rfl⟩
      rw [← hc] at hbits
      have HC := Lib.hid hc
      clear hc
      go_wp2_with (at_builtin; refine wpList_append_own _ rfl _ _ 52 rfl w.heap.size 5 i0 (.int .u8 0) 1 1 Tryd.underlying52 hi hz0 hz1 hz2 rfl (by decide) _ _ _ rfl (hown.alloc _) ⟨wr.heap.size, 0, none⟩ 1 1 [.int .u8 (c.toNat : Int)] rfl rfl ?d1 ?d2 ?d3 ?d4 ?d5 ?_)
      case d1 => exact cell_one_new _ _ _
      case d2 => intro u hu; simp at hu; subst hu; rfl
      case d3 => unfold maxLen; omega
      case d4 => omega
      case d5 => have := hb.size; simp; omega
      intro v' w1 hown' hgrow _
      have hown2 := own_more hown'
      have hb' : Below w.heap.size w w1 := (hb.alloc hb.size _).grown hgrow (by have := hb.size; simp; omega) (fun k hk => (hown.lt k hk).1)
      clear hown hown' hgrow hbits
      go_wp2
      go_roundw
      case rel => exact ⟨n / 128, xs ++ [c], by omega, by go_num, hown2, by rw [HP.out, putL_ge (by omega), ← HC.out]; simp, hb'⟩
      case measure => simp [intOf]; omega
end Go.Proofs.YthopegokjbibmaaDoor.Wire
