/- What the program's own calls are to say of queues (proved elsewhere), and by it what the statements' own pushed answers; of memory that was there nothing turns. -/
import Derived.Test.YtimaehaaidjokaaURefR
namespace Go.Proofs.Ytimaehaaidjokaa.Queue
open Go.RowKit

def Word (i : Nat) : Prop := i ≤ 18446744073709551615
/-- What the five calls answer. -/
structure Says : Prop where
  ahead : ∀ (a b : E) (w : World), Fair a → Fair b → Calls Try.prog 20 #[val a, val b] w fun e w' => e = .returned (.bool (ahead a b)) ∧ Below w.heap.size w w'
  push : ∀ (v : Value) (q : List E) (x : E) (w : World), Row w v q → Fair x → q.length ≤ 8796093022208 → Calls Try.prog 11 #[v, val x] w fun e w' =>
    (∃ u, e = .returned (.tuple #[u, .int .i64 ((pushL q x).2 : Int)]) ∧ Row w' u (pushL q x).1) ∧ Below w.heap.size w w'
  take : ∀ (v : Value) (q : List E) (i : Nat) (w : World), Row w v q → Word i → q.length ≤ 8796093022208 → Calls Try.prog 13 #[v, .int .u64 (i : Int)] w fun e w' =>
    (∃ u, e = .returned (.tuple #[u, .bool (takeL q i).2]) ∧ Row w' u (takeL q i).1) ∧ Below w.heap.size w w'
  place : ∀ (v : Value) (q : List E) (i : Nat) (w : World), Row w v q → Word i → Calls Try.prog 16 #[v, .int .u64 (i : Int)] w fun e w' => e = .returned (.int .i64 (placeL q i)) ∧ Below w.heap.size w w'
  right : ∀ (v : Value) (q : List E) (w : World), Row w v q → Calls Try.prog 18 #[v] w fun e w' => e = .returned (.bool (rightB q)) ∧ Below w.heap.size w w'

theorem push_len (q : List E) (x : E) : (pushL q x).1.length ≤ max q.length 32 := by
  unfold pushL
  split
  · exact Nat.le_max_left _ _
  · split
    · exact Nat.le_max_left _ _
    · split
      · exact Nat.le_max_left _ _
      · rw [insL_length]; omega
theorem pushed_len (l : List E) : (pushedL [] l).length ≤ 32 := (pushed_right right_nil l).few

set_option maxHeartbeats 1000000 in
set_option maxRecDepth 100000 in
theorem pushed_rows (S : Says) (v : Value) (ls : List E) (w : World) (hv : Row w v ls) :
    Calls Try.prog 22 #[v] w fun e w' => (∃ u, e = .returned u ∧ Row w' u (pushedL [] ls)) ∧ Below w.heap.size w w' := by
  have hl := hv.len
  obtain ⟨ad, cap, rfl, _, _⟩ := hv.slice
  have HV := Lib.hid hv
  have HS := Lib.hid S
  clear hv S
  go_enter Try.func22, Try.ntmps22
  go_wp2
  go_loopw [3, 4] (fun q t wr => ∃ k : Nat, k ≤ ls.length ∧ t = .int .i64 k ∧ Row wr q (pushedL [] (ls.take k)) ∧ Below w.heap.size w wr) (fun _ t _ => ls.length - (intOf t).toNat)
  case atStart => exact ⟨0, Nat.zero_le _, rfl, Row.nil _, Below.refl _ _⟩
  case round =>
    obtain ⟨k, hk, rfl, hr, hb⟩ := hrel
    by_cases hlt : k < ls.length
    · have hltz : (k : Int) < (ls.length : Int) := by omega
      have hk0 : (0 : Int) ≤ (k : Int) := by omega
      obtain ⟨g, o, rfl, hg, hc⟩ := HV.out.cells hlt
      obtain ⟨x, hx⟩ : ∃ x, ls[k]? = some x := ⟨_, List.getElem?_eq_getElem hlt⟩
      obtain ⟨hf, x0, x1⟩ := hc.below hg hb k x hx
      have HP := Lib.hid (HS.out.push _ _ x wr hr hf (Nat.le_trans (pushed_len _) (by omega)))
      have HT : Hid ((pushL (pushedL [] (ls.take k)) x).1 = pushedL [] (ls.take (k + 1))) := Lib.hid (pushedL_take hx).symm
      clear hx hc hr hf
      obtain ⟨i, p⟩ := x
      unfold val at HP
      simp only at HP x0 x1
      go_wp2_with fail
      (with_reducible refine HP.out.mono ?_)
      rintro _ wq ⟨⟨u, rfl, hu⟩, hbq⟩
      rw [HT.out] at hu
      have HU := Lib.hid hu
      clear hu HP x0 x1
      go_wp2
      go_roundw
      case rel => exact ⟨k + 1, by omega, by go_num, HU.out, hb.trans (hbq.mono hb.size)⟩
      case measure => simp [intOf]; omega
    · have hltz : ¬ (k : Int) < (ls.length : Int) := by omega
      rw [List.take_of_length_le (by omega)] at hr
      have HR := Lib.hid hr
      clear hr
      go_wp2
      go_ret
      exact ⟨⟨_, rfl, HR.out⟩, hb⟩
end Go.Proofs.Ytimaehaaidjokaa.Queue
