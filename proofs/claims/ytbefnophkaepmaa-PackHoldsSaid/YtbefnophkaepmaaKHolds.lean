/- PackHolds' slots: what the law makes of amounts and labels; names unlike; a slot in a block of its own. -/
import Derived.Test.YtbefnophkaepmaaKTurn
import Derived.Test.YtbefnophkaepmaaKArgs
import Derived.Deep.QuietTactic
namespace Go.Proofs.Ytbefnophkaepmaa.Pack
open Go.RowKit Go.Proofs.Ytbefnophkaepmaa.Label Go.Proofs.Ytbefnophkaepmaa.Sel Go.Proofs.Ytbefnophkaepmaa.Vec Go.Proofs.Ytbefnophkaepmaa.Texts

/-- The name of slot number i. -/
def nameN (i : Nat) : ByteArray := ⟨#[110, UInt8.ofNat (97 + i)]⟩
/-- Slot number i. -/
def mk (fr : List (Nat → Int)) (sl : List Slot) (i : Nat) : Slot := { node := nameN i, free := (fr[i]?).getD fun _ => 0, labs := ((sl[i]?).map Slot.labs).getD [] }
def made (fr : List (Nat → Int)) (sl : List Slot) (k : Nat) : List Slot := (List.range k).map (mk fr sl)
theorem made_succ (fr : List (Nat → Int)) (sl : List Slot) (k : Nat) : made fr sl (k + 1) = made fr sl k ++ [mk fr sl k] := by unfold made; rw [List.range_succ, List.map_append]; rfl
theorem made_length (fr : List (Nat → Int)) (sl : List Slot) (k : Nat) : (made fr sl k).length = k := by unfold made; simp
/-- A slot in a block of its own. -/
def boxSl (nd : ByteArray) (f : Nat → Int) (lv : Value) : Obj := .cells #[.string nd, .int .u64 (f 0), .int .u64 (f 1), .int .u64 (f 2), .int .u64 (f 3), lv] 47
theorem cells6S {w : World} {T : Nat} {nd : ByteArray} {f : Nat → Int} {lv : Value} (h : w.heap[T]? = some (boxSl nd f lv)) :
    w.cell? ⟨T, 0, none⟩ = some (.string nd) ∧ w.cell? ⟨T, 1, none⟩ = some (.int .u64 (f 0)) ∧ w.cell? ⟨T, 2, none⟩ = some (.int .u64 (f 1)) ∧ w.cell? ⟨T, 3, none⟩ = some (.int .u64 (f 2)) ∧ w.cell? ⟨T, 4, none⟩ = some (.int .u64 (f 3)) ∧ w.cell? ⟨T, 5, none⟩ = some lv ∧
    w.frozen? ⟨T, 0, none⟩ = false ∧ w.frozen? ⟨T, 1, none⟩ = false ∧ w.frozen? ⟨T, 2, none⟩ = false ∧ w.frozen? ⟨T, 3, none⟩ = false ∧ w.frozen? ⟨T, 4, none⟩ = false ∧ w.frozen? ⟨T, 5, none⟩ = false :=
  ⟨cell_at h rfl, cell_at h rfl, cell_at h rfl, cell_at h rfl, cell_at h rfl, cell_at h rfl, frozen_at h, frozen_at h, frozen_at h, frozen_at h, frozen_at h, frozen_at h⟩
theorem made_get (fr : List (Nat → Int)) (sl : List Slot) {n k : Nat} (h : k < n) : (made fr sl n)[k]? = some (mk fr sl k) := by
  unfold made
  rw [List.getElem?_map, List.getElem?_range h]
  rfl
theorem name_inj {i j : Nat} (hi : i < 12) (hj : j < 12) (h : nameN i = nameN j) : i = j := by
  have key : ∀ a : Fin 12, ∀ b : Fin 12, UInt8.ofNat (97 + a.val) = UInt8.ofNat (97 + b.val) → a.val = b.val := by decide
  have e : UInt8.ofNat (97 + i) = UInt8.ofNat (97 + j) := by
    unfold nameN at h
    injection h with h
    injection h with h
    injection h with _ h
    injection h with h
  exact key ⟨i, hi⟩ ⟨j, hj⟩ e
/-- What is left of slots keeps their names. -/
theorem left_name {d : Nat → Int} {fr : List (Nat → Int)} {sl : List Slot} {n k : Nat} {js : List Nat} {s : Slot} (h : (leftS d js (made fr sl n))[k]? = some s) : s.node = nameN k := by
  have e := leftS_node d k js (made fr sl n)
  rw [h] at e
  have hk : k < n := by
    have := (List.getElem?_eq_some_iff.1 h).1
    rw [leftS_length, made_length] at this
    exact this
  rw [made_get fr sl hk] at e
  simpa [mk] using e
end Go.Proofs.Ytbefnophkaepmaa.Pack
