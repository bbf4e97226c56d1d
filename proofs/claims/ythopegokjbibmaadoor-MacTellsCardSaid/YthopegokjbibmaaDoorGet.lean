/- What wire.Get answers, for every text and every place: the number whose form stands there and the place behind it, and true; or 0, 0 and false; of memory that was there nothing turns. -/
import Derived.Test.YthopegokjbibmaaDoorUndo
import Derived.Test.YthopegokjbibmaaDoorTake
namespace Go.Proofs.YthopegokjbibmaaDoor.Wire
open Go.RowKit

/-- What Get hands back. -/
def getNo : Value := .tuple #[.int .u64 0, .int .i64 0, .bool false]
def getYes (u n : Nat) : Value := .tuple #[.int .u64 u, .int .i64 n, .bool true]

/-- The world in which Get has laid its variables. -/
def laid (s : ByteArray) (p u n : Int) (ok : Bool) (w : World) : World :=
  ((((w.alloc (.cells #[.string s] 9)).alloc (.cells #[.int .i64 p] 3)).alloc (.cells #[.int .u64 u] 25)).alloc (.cells #[.int .i64 n] 3)).alloc (.cells #[.bool ok] 4)
theorem vars_laid (s : ByteArray) (p u n : Int) (ok : Bool) (w : World) : Vars w.heap.size s p u n ok (laid s p u n ok w) := by
  unfold laid Vars
  refine ⟨?_, ?_, ?_, ?_, ?_, ?_, ?_, ?_⟩ <;> simp [go_sem]
theorem below_laid (s : ByteArray) (p u n : Int) (ok : Bool) (w : World) : Below w.heap.size w (laid s p u n ok w) :=
  (((((Below.refl _ _).alloc (Nat.le_refl _) _).alloc (by simp) _).alloc (by simp; omega) _).alloc (by simp; omega) _).alloc (by simp; omega) _

set_option maxRecDepth 100000 in
set_option maxHeartbeats 1000000 in
theorem get_out (s : ByteArray) (p : Int) (hp : p < 0 ∨ (s.size : Int) ≤ p) (w : World) :
    Calls Tryd.prog 49 #[.string s, .int .i64 p] w fun e w' => e = .returned getNo ∧ Below w.heap.size w w' := by
  have hmf : ∀ (fn : Fn) (first cap : Array Value) (w : World), (Instr.makeFunc fn first cap).run Tryd.prog w = .ok (.func fn first cap) w := fun _ _ _ _ => rfl
  rcases hp with hp | hp
  · go_enter_defers Tryd.func49, Tryd.ntmps49
    go_wp2
    refine leaves_cons (f := 62) (args := #[.pointer (some ⟨w.heap.size + 4, 0, none⟩), .pointer (some ⟨w.heap.size + 2, 0, none⟩), .pointer (some ⟨w.heap.size, 0, none⟩), .pointer (some ⟨w.heap.size + 1, 0, none⟩), .pointer (some ⟨w.heap.size + 3, 0, none⟩)]) (by simp) (by simp [go_sem]) ?_
    refine (undo_none w.heap.size s p 0 0 _ (vars_laid s p 0 0 false w)).mono ?_
    rintro e u' w1 ⟨rfl, rfl, hv, hb⟩
    obtain ⟨c0, c1, c2, c3, c4, f2, f3, f4⟩ := hv
    simp [Leaves, settle, results, Tryd.results49, go_sem, c2, c3, c4]
    exact ⟨rfl, (below_laid s p 0 0 false w).trans hb⟩
  · have hp0 : ¬ p < 0 := by omega
    go_enter_defers Tryd.func49, Tryd.ntmps49
    go_wp2
    refine leaves_cons (f := 62) (args := #[.pointer (some ⟨w.heap.size + 4, 0, none⟩), .pointer (some ⟨w.heap.size + 2, 0, none⟩), .pointer (some ⟨w.heap.size, 0, none⟩), .pointer (some ⟨w.heap.size + 1, 0, none⟩), .pointer (some ⟨w.heap.size + 3, 0, none⟩)]) (by simp) (by simp [go_sem]) ?_
    refine (undo_none w.heap.size s p 0 0 _ (vars_laid s p 0 0 false w)).mono ?_
    rintro e u' w1 ⟨rfl, rfl, hv, hb⟩
    obtain ⟨c0, c1, c2, c3, c4, f2, f3, f4⟩ := hv
    simp [Leaves, settle, results, Tryd.results49, go_sem, c2, c3, c4]
    exact ⟨rfl, (below_laid s p 0 0 false w).trans hb⟩

set_option maxRecDepth 100000 in
set_option maxHeartbeats 1000000 in
theorem get_none (s : ByteArray) (p : Nat) (hp : p < s.size) (hs : s.size ≤ 9223372036854775807) (ht : takeL 10 (s.data.toList.drop p) = none) (w : World) :
    Calls Tryd.prog 49 #[.string s, .int .i64 p] w fun e w' => e = .returned getNo ∧ Below w.heap.size w w' := by
  have hmf : ∀ (fn : Fn) (first cap : Array Value) (w : World), (Instr.makeFunc fn first cap).run Tryd.prog w = .ok (.func fn first cap) w := fun _ _ _ _ => rfl
  have HT : Hid (∀ w, Calls Tryd.prog 63 #[.string s, .int .i64 p] w fun e w' => e = .returned (.tuple #[.int .u64 0, .int .i64 0, .bool false]) ∧ w = w') := fun w => by
    have := take_any s p (by omega) hs w
    rw [ht] at this
    exact this
  clear ht
  go_enter_defers Tryd.func49, Tryd.ntmps49
  go_wp2_with (go_at_call 63; refine (HT.out _).mono ?_; rintro e w' ⟨rfl, rfl⟩)
  refine leaves_cons (f := 62) (args := #[.pointer (some ⟨w.heap.size + 4, 0, none⟩), .pointer (some ⟨w.heap.size + 2, 0, none⟩), .pointer (some ⟨w.heap.size, 0, none⟩), .pointer (some ⟨w.heap.size + 1, 0, none⟩), .pointer (some ⟨w.heap.size + 3, 0, none⟩)]) (by simp) (by simp [go_sem]) ?_
  refine (undo_none w.heap.size s p 0 0 _ (vars_laid s p 0 0 false w)).mono ?_
  rintro e u' w1 ⟨rfl, rfl, hv, hb⟩
  obtain ⟨c0, c1, c2, c3, c4, f2, f3, f4⟩ := hv
  simp [Leaves, settle, results, Tryd.results49, go_sem, c2, c3, c4]
  exact ⟨rfl, (below_laid s p 0 0 false w).trans hb⟩

set_option maxRecDepth 100000 in
set_option maxHeartbeats 1000000 in
theorem get_good (s : ByteArray) (p : Nat) (hs : s.size ≤ 9223372036854775807) (U n : Nat) (hU : U < 18446744073709551616) (hpn : p < n) (hn : n ≤ s.size) (v k : Nat) (hv : U = v % 18446744073709551616) (hk : n = p + k) (ht : takeL 10 (s.data.toList.drop p) = some (v, k))
    (hd : (str (putL U)).toList = (s.extract p n).toList) (w : World) :
    Calls Tryd.prog 49 #[.string s, .int .i64 p] w fun e w' => e = .returned (getYes U n) ∧ Below w.heap.size w w' := by
  have hmf : ∀ (fn : Fn) (first cap : Array Value) (w : World), (Instr.makeFunc fn first cap).run Tryd.prog w = .ok (.func fn first cap) w := fun _ _ _ _ => rfl
  have HT : Hid (∀ w, Calls Tryd.prog 63 #[.string s, .int .i64 p] w fun e w' => e = .returned (.tuple #[.int .u64 U, .int .i64 n, .bool true]) ∧ w = w') := fun w => by
    have := take_any s p (by omega) hs w
    rw [ht] at this
    subst hv hk
    exact this
  have HD := Lib.hid hd
  clear ht hv hk hd
  go_enter_defers Tryd.func49, Tryd.ntmps49
  go_wp2_with (go_at_call 63; refine (HT.out _).mono ?_; rintro e w' ⟨rfl, rfl⟩)
  refine leaves_cons (f := 62) (args := #[.pointer (some ⟨w.heap.size + 4, 0, none⟩), .pointer (some ⟨w.heap.size + 2, 0, none⟩), .pointer (some ⟨w.heap.size, 0, none⟩), .pointer (some ⟨w.heap.size + 1, 0, none⟩), .pointer (some ⟨w.heap.size + 3, 0, none⟩)]) (by simp) (by simp [go_sem]) ?_
  refine (undo_same w.heap.size s p n U hU (by omega) hn HD.out _ (vars_laid s p U n true w)).mono ?_
  rintro e u' w1 ⟨rfl, rfl, hv, hb⟩
  obtain ⟨c0, c1, c2, c3, c4, f2, f3, f4⟩ := hv
  simp [Leaves, settle, results, Tryd.results49, go_sem, c2, c3, c4]
  exact ⟨rfl, (below_laid s p U n true w).trans hb⟩

set_option maxRecDepth 100000 in
set_option maxHeartbeats 1000000 in
theorem get_bad (s : ByteArray) (p : Nat) (hs : s.size ≤ 9223372036854775807) (U n : Nat) (hU : U < 18446744073709551616) (hpn : p < n) (hn : n ≤ s.size) (v k : Nat) (hv : U = v % 18446744073709551616) (hk : n = p + k) (ht : takeL 10 (s.data.toList.drop p) = some (v, k))
    (hd : ((str (putL U)).toList == (s.extract p n).toList) = false) (w : World) :
    Calls Tryd.prog 49 #[.string s, .int .i64 p] w fun e w' => e = .returned getNo ∧ Below w.heap.size w w' := by
  have hmf : ∀ (fn : Fn) (first cap : Array Value) (w : World), (Instr.makeFunc fn first cap).run Tryd.prog w = .ok (.func fn first cap) w := fun _ _ _ _ => rfl
  have HT : Hid (∀ w, Calls Tryd.prog 63 #[.string s, .int .i64 p] w fun e w' => e = .returned (.tuple #[.int .u64 U, .int .i64 n, .bool true]) ∧ w = w') := fun w => by
    have := take_any s p (by omega) hs w
    rw [ht] at this
    subst hv hk
    exact this
  have HD := Lib.hid hd
  clear ht hv hk hd
  go_enter_defers Tryd.func49, Tryd.ntmps49
  go_wp2_with (go_at_call 63; refine (HT.out _).mono ?_; rintro e w' ⟨rfl, rfl⟩)
  refine leaves_cons (f := 62) (args := #[.pointer (some ⟨w.heap.size + 4, 0, none⟩), .pointer (some ⟨w.heap.size + 2, 0, none⟩), .pointer (some ⟨w.heap.size, 0, none⟩), .pointer (some ⟨w.heap.size + 1, 0, none⟩), .pointer (some ⟨w.heap.size + 3, 0, none⟩)]) (by simp) (by simp [go_sem]) ?_
  refine (undo_other w.heap.size s p n U hU (by omega) hn HD.out _ (vars_laid s p U n true w)).mono ?_
  rintro e u' w1 ⟨rfl, rfl, hv, hb⟩
  obtain ⟨c0, c1, c2, c3, c4, f2, f3, f4⟩ := hv
  simp [Leaves, settle, results, Tryd.results49, go_sem, c2, c3, c4]
  exact ⟨rfl, (below_laid s p U n true w).trans hb⟩

end Go.Proofs.YthopegokjbibmaaDoor.Wire
