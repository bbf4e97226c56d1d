/- An element put into a row of one's own, in place or into a new row, as slices.Insert does it: two copies, one behind the other; of no program. -/
import Derived.Test.YtimaehaaidjokaaGRow
import Derived.Lib.AppendZerosOnto
import Derived.Lib.Overlaps
import Derived.Laws.Externs
import Derived.Laws.NewBlocks
import Derived.Lib.JoinLaws
import Derived.Lib.Walk
namespace Go.Proofs.Ytimaehaaidjokaa.Rec
open Go.RowKit

/-- A copy of elements of any size: all is read before anything is written. -/
theorem run_copy_size {P : Program} (w : World) (dT sT ty elem : TypeId) (size k : Nat) (b o dLen dCap : Nat) (a : Addr) (sLen sCap : Nat) (cs : List Value)
    (hu : P.underlying dT = some (.slice elem)) (hs : (P.info? elem).map (·.size) = some size) (hk : k = Nat.min sLen dLen) (hn : cs.length = k * size)
    (hsrc : ∀ j v, cs[j]? = some v → w.cell? (a.add j) = some v) (hc : ∀ j, j < cs.length → (w.cell? ⟨b, o + j, none⟩).isSome = true) (hf : ∀ j, j < cs.length → w.frozen? ⟨b, o + j, none⟩ = false) (h1 : ∀ v ∈ cs, v.oneCell' = true) :
    (Builtin.copy_ #[dT, sT] ty #[.slice (some ⟨b, o, none⟩) dLen dCap, .slice (some a) sLen sCap]).run P w = .ok (goInt k) (w.setCells b o cs) := by
  have hl := run_loadCells_list (P := P) w a cs hsrc
  have hst := run_storeCells_cells (P := P) b o cs 0 w (by simpa using hc) (by simpa using hf) h1
  rw [hn] at hl
  cases hq : P.info? elem with
  | none => simp [hq] at hs
  | some i =>
    have hi : i.size = size := by simpa [hq] using hs
    simp [Builtin.copy_, run_underlying hu, Builtin.lenOf, Builtin.firstCells, sizeOf, typeInfo, hq, hi, ← hk, hl, hst]

variable {α : Type}
theorem flat_take (R : Rec α) (ls : List α) (i : Nat) : (flat R ls).take (i * R.n) = flat R (ls.take i) := by
  by_cases hi : i ≤ ls.length
  · have h : flat R ls = flat R (ls.take i) ++ flat R (ls.drop i) := by rw [← flat_append, List.take_append_drop]
    rw [h, List.take_left' (by rw [flat_len, List.length_take, Nat.min_eq_left hi])]
  · rw [List.take_of_length_le (by rw [flat_len]; exact Nat.mul_le_mul_right _ (by omega)), List.take_of_length_le (by omega)]
theorem flat_drop (R : Rec α) (ls : List α) (i : Nat) : (flat R ls).drop (i * R.n) = flat R (ls.drop i) := by
  by_cases hi : i ≤ ls.length
  · have h : flat R ls = flat R (ls.take i) ++ flat R (ls.drop i) := by rw [← flat_append, List.take_append_drop]
    rw [h, List.drop_left' (by rw [flat_len, List.length_take, Nat.min_eq_left hi])]
  · rw [List.drop_of_length_le (by rw [flat_len]; exact Nat.mul_le_mul_right _ (by omega)), List.drop_of_length_le (by omega)]; rfl
/-- One put in at a place. -/
def insAt (ls : List α) (i : Nat) (x : α) : List α := ls.take i ++ x :: ls.drop i
theorem insAt_len {ls : List α} {i : Nat} {x : α} (hi : i ≤ ls.length) : (insAt ls i x).length = ls.length + 1 := by unfold insAt; rw [List.length_append, List.length_take, List.length_cons, List.length_drop]; omega
theorem flat_ins (R : Rec α) (ls : List α) (i : Nat) (x : α) : flat R (insAt ls i x) = flat R (ls.take i) ++ (R.cells x ++ flat R (ls.drop i)) := by
  unfold insAt
  rw [flat_append]
  show _ ++ flat R (x :: ls.drop i) = _
  unfold flat
  rw [List.flatMap_cons]
theorem sets_part (L A : List Value) (o : Nat) (h : o + A.length ≤ L.length) : sets L o A = L.take o ++ A ++ L.drop (o + A.length) := by
  apply List.ext_getElem?
  intro k
  rw [sets_get _ _ _ _ h]
  by_cases h1 : k < o
  · rw [if_neg (by omega), List.append_assoc, List.getElem?_append_left (by rw [List.length_take]; omega), List.getElem?_take, if_pos h1]
  · by_cases h2 : k < o + A.length
    · rw [if_pos (by omega), List.append_assoc, List.getElem?_append_right (by rw [List.length_take]; omega), List.length_take, Nat.min_eq_left (by omega), List.getElem?_append_left (by omega)]
    · rw [if_neg (by omega), List.getElem?_append_right (by rw [List.length_append, List.length_take]; omega), List.length_append, List.length_take, Nat.min_eq_left (by omega), List.getElem?_drop]
      congr 1
      omega
/-- Both copies, the hinder one first. -/
theorem sets_ins (R : Rec α) (ls : List α) (i : Nat) (x : α) (hi : i ≤ ls.length) (L : List Value) (hL : L.length = (ls.length + 1) * R.n) (ht : L.take (i * R.n) = flat R (ls.take i)) :
    sets (sets L ((i + 1) * R.n) (flat R (ls.drop i))) (i * R.n) (R.cells x) = flat R (insAt ls i x) := by
  have e1 : (flat R (ls.drop i)).length = (ls.length - i) * R.n := by rw [flat_len, List.length_drop]
  have e2 : (i + 1) * R.n + (ls.length - i) * R.n = (ls.length + 1) * R.n := by rw [← Nat.add_mul]; congr 1; omega
  have e3 : (i + 1) * R.n = i * R.n + R.n := Nat.succ_mul _ _
  have e4 : (flat R (ls.take i)).length = i * R.n := by rw [flat_len, List.length_take, Nat.min_eq_left hi]
  rw [sets_part L _ _ (by omega), sets_part _ _ _ (by simp only [List.length_append, List.length_take, List.length_drop, R.len]; omega), flat_ins, R.len, e1, e2, List.drop_of_length_le (l := L) (by omega), List.append_nil]
  have e5 : L.take ((i + 1) * R.n) = flat R (ls.take i) ++ (L.take ((i + 1) * R.n)).drop (i * R.n) := by
    rw [← ht]
    conv => lhs; rw [← List.take_append_drop (i * R.n) (L.take ((i + 1) * R.n))]
    rw [List.take_take, Nat.min_eq_left (by omega)]
  rw [List.append_assoc (_ : List Value), List.take_append_of_le_length (by rw [List.length_take]; omega), List.take_take, Nat.min_eq_left (by omega), ht]
  congr 2
  rw [List.drop_left' (by rw [List.length_take]; omega)]
/-- Both copies, the fore one first. -/
theorem sets_ins' (R : Rec α) (ls : List α) (i : Nat) (x : α) (hi : i ≤ ls.length) (L : List Value) (hL : L.length = (ls.length + 1) * R.n) (ht : L.take (i * R.n) = flat R (ls.take i)) :
    sets (sets L (i * R.n) (R.cells x)) ((i + 1) * R.n) (flat R (ls.drop i)) = flat R (insAt ls i x) := by
  rw [← sets_ins R ls i x hi L hL ht]
  have e1 : (flat R (ls.drop i)).length = (ls.length - i) * R.n := by rw [flat_len, List.length_drop]
  have e2 : (i + 1) * R.n + (ls.length - i) * R.n = (ls.length + 1) * R.n := by rw [← Nat.add_mul]; congr 1; omega
  have e3 : (i + 1) * R.n = i * R.n + R.n := Nat.succ_mul _ _
  apply List.ext_getElem?
  intro k
  rw [sets_get _ _ _ _ (by rw [sets_length]; omega), sets_get _ _ _ _ (by rw [R.len]; omega), sets_get _ _ _ _ (by rw [sets_length, R.len]; omega), sets_get _ _ _ _ (by omega), R.len]
  by_cases h1 : i * R.n ≤ k ∧ k < i * R.n + R.n
  · rw [if_pos h1, if_neg (by omega), if_pos h1]
  · rw [if_neg h1, if_neg h1]

/-- A row of one's own with room for one more: the same memory as one element longer. -/
theorem own_room {w : World} {B size g n cap : Nat} {T : TypeId} {xs : List Value} (h : w.ownsRow B T size (.slice (some ⟨g, 0, none⟩) n cap) n xs) (hc : n + 1 ≤ cap) :
    ∃ L, w.ownsRow B T size (.slice (some ⟨g, 0, none⟩) (n + 1) cap) (n + 1) L ∧ L.length = (n + 1) * size ∧ L.take (n * size) = xs := by
  rcases h.2 with ⟨h', _⟩ | ⟨g', cap', cur, h', hb, hg, hnc, hcm, hcs, htake⟩
  · simp at h'
  · simp only [Value.slice.injEq, Option.some.injEq, Addr.mk.injEq, and_true, true_and] at h'
    obtain ⟨rfl, rfl⟩ := h'
    have hl : (cur.toList.take ((n + 1) * size)).length = (n + 1) * size := by
      rw [List.length_take, Array.length_toList, hcs]
      exact Nat.min_eq_left (Nat.mul_le_mul_right _ hc)
    refine ⟨cur.toList.take ((n + 1) * size), ⟨hl, .inr ⟨g, cap, cur, rfl, hb, hg, hc, hcm, hcs, rfl⟩⟩, hl, ?_⟩
    rw [List.take_take, Nat.min_eq_left (Nat.mul_le_mul_right _ (by omega)), htake]
theorem own_isSome {w : World} {B size g n cap : Nat} {T : TypeId} {xs : List Value} (h : w.ownsRow B T size (.slice (some ⟨g, 0, none⟩) n cap) n xs) {j : Nat} (hj : j < n * size) : (w.cell? ⟨g, j, none⟩).isSome = true := by
  rw [h.cellAt j hj, List.getElem?_eq_getElem (by rw [h.1]; exact hj)]; rfl
end Go.Proofs.Ytimaehaaidjokaa.Rec
namespace Go.Proofs.Ytimaehaaidjokaa.Rec
open Go.RowKit
/-! ### The operation copy, its run known -/
variable {P : Program}
theorem wp_copy {o : Oper} {a : Act} {w : World} {K : Act → World → Prop} {Q : Exit → Act → World → Prop} (x y : Operand) (tx ty : TypeId)
    (hop : o.op = .call { callee := .builtin .copy, args := #[x, y], argTypes := #[tx, ty] }) {vx vy v : Value} {w' : World} (hx : a.eval x = vx) (hy : a.eval y = vy)
    (hrun : (Builtin.copy_ #[tx, ty] o.type #[vx, vy]).run P w = .ok v w') (hK : K (a.put o.dst v) w') : o.wp P a w K Q := by
  unfold Oper.wp
  simp [execOp, hop, resolve, invoke, builtin, hx, hy, hrun, Result.andThen]
  exact hK
theorem list_copy {ops : Array Oper} {rest : List Oper} {o : Oper} {a : Act} {w : World} {Q : Exit → Act → World → Prop} (hg : o.guard = none) (x y : Operand) (tx ty : TypeId)
    (hop : o.op = .call { callee := .builtin .copy, args := #[x, y], argTypes := #[tx, ty] }) (vx vy : Value) (hx : a.eval x = vx) (hy : a.eval y = vy) {v : Value} {w' : World}
    (hrun : (Builtin.copy_ #[tx, ty] o.type #[vx, vy]).run P w = .ok v w') (h : wpList P ops Q rest (a.put o.dst v) w') : wpList P ops Q (o :: rest) a w :=
  wpList_plain hg fun _ hK => wp_copy x y tx ty hop hx hy hrun (hK _ _ h)
theorem step_copy {ops : Array Oper} {o : Oper} {a : Act} {w : World} {K : Act → World → Prop} {Q : Exit → Act → World → Prop} {E : Prop} (hg : o.guard = none) (x y : Operand) (tx ty : TypeId)
    (hop : o.op = .call { callee := .builtin .copy, args := #[x, y], argTypes := #[tx, ty] }) (vx vy : Value) (hx : a.eval x = vx) (hy : a.eval y = vy) {v : Value} {w' : World}
    (hrun : (Builtin.copy_ #[tx, ty] o.type #[vx, vy]).run P w = .ok v w') (h : K (a.put o.dst v) w') : if Region.wanted o (yielded ops a.tmps) = true then Oper.wp P o a w K Q else E := by
  rw [if_pos (by simp [Region.wanted, hg])]
  exact wp_copy x y tx ty hop hx hy hrun h
end Go.Proofs.Ytimaehaaidjokaa.Rec
