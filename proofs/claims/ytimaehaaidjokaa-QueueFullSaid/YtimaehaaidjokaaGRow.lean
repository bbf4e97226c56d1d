/- Rows of records in memory, whatever their cells are: read, of one's own, one put in another's place; of no program. -/
import Derived.OwnWalk
import Derived.Laws.OwnMore
import Derived.Laws.IdiomCopy
import Derived.Below
import Derived.WalkKit
namespace Go.Proofs.Ytimaehaaidjokaa.Rec
open Go.RowKit

/-- How a record lies: so many cells. -/
structure Rec (α : Type) where
  n : Nat
  cells : α → List Value
  len : ∀ a, (cells a).length = n
  one : ∀ a, ∀ v ∈ cells a, v.oneCell' = true
  pos : 0 < n
variable {α : Type}
def flat (R : Rec α) (ls : List α) : List Value := ls.flatMap R.cells
theorem flat_len (R : Rec α) : ∀ ls : List α, (flat R ls).length = ls.length * R.n
  | [] => by simp [flat]
  | a :: l => by
    have ih := flat_len R l
    unfold flat at ih ⊢
    rw [List.flatMap_cons, List.length_append, ih, R.len, List.length_cons, Nat.succ_mul]; omega
theorem flat_get (R : Rec α) : ∀ (ls : List α) (j : Nat) (a : α) (i : Nat) (v : Value), ls[j]? = some a → (R.cells a)[i]? = some v → (flat R ls)[j * R.n + i]? = some v
  | [], j, a, i, v, h, _ => by simp at h
  | b :: l, 0, a, i, v, h, hi => by
    simp at h; subst h
    have hl : i < (R.cells b).length := (List.getElem?_eq_some_iff.1 hi).1
    unfold flat
    rw [List.flatMap_cons, Nat.zero_mul, Nat.zero_add, List.getElem?_append_left hl]; exact hi
  | b :: l, j + 1, a, i, v, h, hi => by
    have ih := flat_get R l j a i v (by simpa using h) hi
    unfold flat at ih ⊢
    rw [List.flatMap_cons, List.getElem?_append_right (by rw [R.len, Nat.succ_mul]; omega), R.len, show (j + 1) * R.n + i - R.n = j * R.n + i by rw [Nat.succ_mul]; omega]
    exact ih
theorem flat_at (R : Rec α) : ∀ (ls : List α) (k : Nat) (u : Value), (flat R ls)[k]? = some u → ∃ j i a, k = j * R.n + i ∧ ls[j]? = some a ∧ (R.cells a)[i]? = some u
  | [], k, u, h => by simp [flat] at h
  | b :: l, k, u, h => by
    have hl : (R.cells b).length = R.n := R.len b
    unfold flat at h
    rw [List.flatMap_cons] at h
    by_cases hk : k < R.n
    · rw [List.getElem?_append_left (by omega)] at h
      exact ⟨0, k, b, by omega, rfl, h⟩
    · rw [List.getElem?_append_right (by omega), hl] at h
      obtain ⟨j, i, a, h1, h2, h3⟩ := flat_at R l (k - R.n) u h
      exact ⟨j + 1, i, a, by rw [Nat.succ_mul]; omega, by simpa using h2, h3⟩
theorem flat_one (R : Rec α) (ls : List α) : ∀ u ∈ flat R ls, u.oneCell' = true := fun u hu => by
  obtain ⟨a, _, h⟩ := List.mem_flatMap.1 hu
  exact R.one a u h
theorem flat_append (R : Rec α) (a b : List α) : flat R (a ++ b) = flat R a ++ flat R b := by unfold flat; exact List.flatMap_append
/-- Cells set, one behind another. -/
def sets (xs : List Value) : Nat → List Value → List Value
  | _, [] => xs
  | o, v :: r => sets (xs.set o v) (o + 1) r
theorem sets_length : ∀ (vs : List Value) (xs : List Value) (o : Nat), (sets xs o vs).length = xs.length
  | [], _, _ => rfl
  | v :: r, xs, o => by show (sets (xs.set o v) (o + 1) r).length = _; rw [sets_length r, List.length_set]
theorem sets_get : ∀ (vs : List Value) (xs : List Value) (o k : Nat), o + vs.length ≤ xs.length → (sets xs o vs)[k]? = if o ≤ k ∧ k < o + vs.length then vs[k - o]? else xs[k]?
  | [], xs, o, k, _ => by
    show xs[k]? = _
    rw [if_neg (by simp)]
  | v :: r, xs, o, k, h => by
    rw [List.length_cons] at h
    show (sets (xs.set o v) (o + 1) r)[k]? = _
    rw [sets_get r (xs.set o v) (o + 1) k (by rw [List.length_set]; omega), List.length_cons]
    by_cases h1 : o + 1 ≤ k ∧ k < o + 1 + r.length
    · rw [if_pos h1, if_pos (by omega), show k - o = (k - (o + 1)) + 1 by omega, List.getElem?_cons_succ]
    · rw [if_neg h1]
      by_cases h2 : k = o
      · subst h2
        rw [if_pos (by omega), Nat.sub_self, List.getElem?_set_self (by omega)]; rfl
      · rw [if_neg (by omega), List.getElem?_set_ne (by omega)]
theorem flat_set (R : Rec α) (ls : List α) {j : Nat} (hj : j < ls.length) (a : α) : sets (flat R ls) (j * R.n) (R.cells a) = flat R (ls.set j a) := by
  apply List.ext_getElem?
  intro k
  have hb : j * R.n + R.n ≤ ls.length * R.n := by rw [← Nat.succ_mul]; exact Nat.mul_le_mul_right _ hj
  rw [sets_get _ _ _ _ (by rw [R.len, flat_len]; exact hb), R.len]
  by_cases hk : j * R.n ≤ k ∧ k < j * R.n + R.n
  · rw [if_pos hk]
    have hlt : k - j * R.n < (R.cells a).length := by rw [R.len]; omega
    have := flat_get R (ls.set j a) j a (k - j * R.n) _ (List.getElem?_set_self hj) (List.getElem?_eq_getElem hlt)
    rw [show j * R.n + (k - j * R.n) = k by omega] at this
    rw [this, List.getElem?_eq_getElem hlt]
  · rw [if_neg hk]
    by_cases hkl : k < ls.length * R.n
    · have hq : k / R.n < ls.length := Nat.div_lt_of_lt_mul (by rw [Nat.mul_comm]; exact hkl)
      have hne : j ≠ k / R.n := fun e => by
        have h1 := Nat.div_add_mod k R.n
        have h2 := Nat.mod_lt k R.pos
        rw [← e, Nat.mul_comm] at h1
        omega
      have hm := Nat.mod_lt k R.pos
      have hkk : k / R.n * R.n + k % R.n = k := by rw [Nat.mul_comm]; exact Nat.div_add_mod k R.n
      have hx : ∀ l : List α, ∀ b, l[k / R.n]? = some b → (flat R l)[k]? = (R.cells b)[k % R.n]? := fun l b hb => by
        have hlt : k % R.n < (R.cells b).length := by rw [R.len]; exact hm
        have := flat_get R l (k / R.n) b (k % R.n) _ hb (List.getElem?_eq_getElem hlt)
        rw [hkk] at this
        rw [this, List.getElem?_eq_getElem hlt]
      rw [hx ls ls[k / R.n] (List.getElem?_eq_getElem hq), hx (ls.set j a) ls[k / R.n] (by rw [List.getElem?_set_ne hne]; exact List.getElem?_eq_getElem hq)]
    · rw [List.getElem?_eq_none (by rw [flat_len]; omega), List.getElem?_eq_none (by rw [flat_len, List.length_set]; omega)]

/-! ### A row that is read -/
def RCells (R : Rec α) (w : World) (g o : Nat) (ls : List α) : Prop := ∀ j a, ls[j]? = some a → ∀ i v, (R.cells a)[i]? = some v → w.cell? ⟨g, o + j * R.n + i, none⟩ = some v
def RRow (R : Rec α) (w : World) (v : Value) (ls : List α) : Prop :=
  (ls = [] ∧ ∃ a cap, v = .slice a 0 cap ∧ cap ≤ maxLen) ∨ (ls ≠ [] ∧ ∃ g o cap, v = .slice (some ⟨g, o, none⟩) ls.length cap ∧ g < w.heap.size ∧ ls.length ≤ cap ∧ cap ≤ maxLen ∧ RCells R w g o ls)
theorem RCells.below {R : Rec α} {w w' : World} {g o : Nat} {ls : List α} (h : RCells R w g o ls) (hg : g < w.heap.size) (hb : Below w.heap.size w w') : RCells R w' g o ls := fun j a hj i v hi => by
  rw [hb.cell (p := ⟨g, o + j * R.n + i, none⟩) hg]
  exact h j a hj i v hi
theorem RRow.below {R : Rec α} {w w' : World} {v : Value} {ls : List α} (h : RRow R w v ls) (hb : Below w.heap.size w w') : RRow R w' v ls := by
  rcases h with h | ⟨h0, g, o, cap, h1, h2, h3, h4, h5⟩
  · exact .inl h
  · exact .inr ⟨h0, g, o, cap, h1, by have := hb.size; omega, h3, h4, h5.below h2 hb⟩
theorem RRow.slice {R : Rec α} {w : World} {v : Value} {ls : List α} (h : RRow R w v ls) : ∃ a cap, v = .slice a ls.length cap ∧ ls.length ≤ cap ∧ cap ≤ maxLen := by
  rcases h with ⟨rfl, a, cap, rfl, hm⟩ | ⟨_, g, o, cap, rfl, _, hc, hm, _⟩
  · exact ⟨_, _, rfl, Nat.zero_le _, hm⟩
  · exact ⟨_, _, rfl, hc, hm⟩
theorem RRow.at {R : Rec α} {w : World} {a : Option Addr} {cap k n : Nat} {ls : List α} (h : RRow R w (.slice a n cap) ls) (hk : k < ls.length) : ∃ g o, a = some ⟨g, o, none⟩ ∧ g < w.heap.size ∧ RCells R w g o ls := by
  rcases h with ⟨rfl, _⟩ | ⟨_, g, o, cap', hsl, hg, _, _, hcell⟩
  · simp at hk
  · injection hsl with h1 _ _
    exact ⟨g, o, h1, hg, hcell⟩
theorem RRow.nil (R : Rec α) (w : World) : RRow R w (.slice none 0 0) [] := .inl ⟨rfl, _, _, rfl, Nat.zero_le _⟩
theorem RRow.len {R : Rec α} {w : World} {v : Value} {ls : List α} (h : RRow R w v ls) : ls.length ≤ 9223372036854775807 := by
  obtain ⟨_, cap, _, h1, h2⟩ := h.slice
  unfold maxLen at h2
  omega
theorem RCells.flat {R : Rec α} {w : World} {g o : Nat} {ls : List α} (h : RCells R w g o ls) : ∀ k u, (flat R ls)[k]? = some u → w.cell? ⟨g, o + k, none⟩ = some u := fun k u hk => by
  obtain ⟨j, i, a, e, h1, h2⟩ := flat_at R ls k u hk
  rw [e, ← Nat.add_assoc]
  exact h j a h1 i u h2

/-! ### A row of one's own -/
def Own (R : Rec α) (T : TypeId) (B : Nat) (w : World) (v : Value) (ls : List α) : Prop := w.ownsRow B T R.n v ls.length (flat R ls)
theorem Own.row {R : Rec α} {T : TypeId} {B : Nat} {w : World} {v : Value} {ls : List α} (h : Own R T B w v ls) : RRow R w v ls := by
  have hc := fun g hg => World.ownsRow.cells h (g := g) hg
  rcases h.2 with ⟨rfl, h0⟩ | ⟨g, cap, cur, rfl, hB, hg, hcap, hm, _, _⟩
  · exact .inl ⟨List.eq_nil_of_length_eq_zero h0, none, 0, rfl, Nat.zero_le _⟩
  · by_cases hl : ls = []
    · subst hl
      exact .inl ⟨rfl, _, _, rfl, hm⟩
    · refine .inr ⟨hl, g, 0, cap, rfl, (Array.getElem?_eq_some_iff.1 hg).1, hcap, hm, fun j a hj i v hi => ?_⟩
      have := hc g rfl _ _ (flat_get R ls j a i v hj hi)
      rw [Addr.add_lit] at this
      rw [Nat.zero_add]
      simpa using this
theorem Own.more {R : Rec α} {T : TypeId} {B : Nat} {w w' : World} {v : Value} {ls : List α} (h : Own R T B w v ls) (hb : Below w.heap.size w w') : Own R T B w' v ls := by
  refine ⟨h.1, ?_⟩
  rcases h.2 with hn | ⟨g, cap, cur, hv, hB, hg, rest⟩
  · exact .inl hn
  · exact .inr ⟨g, cap, cur, hv, hB, (hb.block g (Array.getElem?_eq_some_iff.1 hg).1).trans hg, rest⟩
theorem Own.mono {R : Rec α} {T : TypeId} {B B' : Nat} {w : World} {v : Value} {ls : List α} (h : Own R T B w v ls) (hb : B' ≤ B) : Own R T B' w v ls := by
  refine ⟨h.1, ?_⟩
  rcases h.2 with hn | ⟨g, cap, cur, hv, hB, hg, rest⟩
  · exact .inl hn
  · exact .inr ⟨g, cap, cur, hv, Nat.le_trans hb hB, hg, rest⟩
/-- Kept while other blocks are written. -/
theorem Own.keep {R : Rec α} {T : TypeId} {B H : Nat} {w w' : World} {v : Value} {ls : List α} (h : Own R T B w v ls) (hv : ∀ g o n c, v = .slice (some ⟨g, o, none⟩) n c → g < H) (hb : Below H w w') : Own R T B w' v ls := by
  refine ⟨h.1, ?_⟩
  rcases h.2 with hn | ⟨g, cap, cur, e, hB, hg, rest⟩
  · exact .inl hn
  · exact .inr ⟨g, cap, cur, e, hB, (hb.block g (hv g 0 _ _ e)).trans hg, rest⟩
theorem Own.nil (R : Rec α) (T : TypeId) (B : Nat) (w : World) : Own R T B w (.slice none 0 0) [] := World.ownsRow_nil _ _ _ _
theorem Own.at {R : Rec α} {T : TypeId} {B : Nat} {w : World} {a : Option Addr} {n cap j : Nat} {ls : List α} (h : Own R T B w (.slice a n cap) ls) (hj : j < ls.length) : ∃ g, a = some ⟨g, 0, none⟩ ∧ n = ls.length ∧ B ≤ g ∧ g < w.heap.size ∧ ls.length ≤ cap ∧ cap ≤ maxLen := by
  rcases h.2 with ⟨_, h0⟩ | ⟨g, cap', cur, e, hB, hg, hc, hm, _, _⟩
  · omega
  · injection e with e1 e2 e3
    subst e3
    exact ⟨g, e1, e2, hB, (Array.getElem?_eq_some_iff.1 hg).1, hc, hm⟩
theorem own_sets {B : Nat} {T : TypeId} {g n cap size : Nat} : ∀ (vs : List Value) (o : Nat) {w : World} {xs : List Value}, w.ownsRow B T size (.slice (some ⟨g, 0, none⟩) n cap) n xs → (w.setCells g o vs).ownsRow B T size (.slice (some ⟨g, 0, none⟩) n cap) n (sets xs o vs)
  | [], _, _, _, h => h
  | v :: r, o, _, _, h => own_sets r (o + 1) (h.stored o v).1
theorem sets_below {H g : Nat} {w0 : World} (hg : H ≤ g) : ∀ (vs : List Value) (o : Nat) {w : World}, Below H w0 w → Below H w0 (w.setCells g o vs)
  | [], _, _, h => h
  | v :: r, o, _, h => sets_below hg r (o + 1) (h.setCell (show H ≤ Addr.block ⟨g, o, none⟩ from hg) v)
theorem sets_size (g : Nat) : ∀ (vs : List Value) (o : Nat) (w : World), (w.setCells g o vs).heap.size = w.heap.size
  | [], _, _ => rfl
  | v :: r, o, w => by
    show ((w.setCell ⟨g, o, none⟩ v).setCells g (o + 1) r).heap.size = _
    rw [sets_size g r]; simp
/-- One in another's place. -/
theorem Own.put {R : Rec α} {T : TypeId} {B : Nat} {w : World} {g cap j : Nat} {ls : List α} (h : Own R T B w (.slice (some ⟨g, 0, none⟩) ls.length cap) ls) (hj : j < ls.length) (a : α) : Own R T B (w.setCells g (j * R.n) (R.cells a)) (.slice (some ⟨g, 0, none⟩) ls.length cap) (ls.set j a) := by
  have := own_sets (R.cells a) (j * R.n) h
  rw [flat_set R ls hj a] at this
  unfold Own
  rw [List.length_set]
  exact this
theorem Own.cell {R : Rec α} {T : TypeId} {B : Nat} {w : World} {g cap j i n : Nat} {ls : List α} {a : α} {v : Value} (h : Own R T B w (.slice (some ⟨g, 0, none⟩) n cap) ls) (hj : ls[j]? = some a) (hi : (R.cells a)[i]? = some v) : w.cell? ⟨g, j * R.n + i, none⟩ = some v ∧ w.frozen? ⟨g, j * R.n + i, none⟩ = false := by
  have e : n = ls.length := by
    rcases h.2 with ⟨h0, _⟩ | ⟨g', cap', cur, h0, _⟩
    · cases h0
    · injection h0 with _ e _
  subst e
  have h1 := World.ownsRow.cells h (g := g) rfl _ _ (flat_get R ls j a i v hj hi)
  rw [Addr.add_lit, Nat.zero_add] at h1
  exact ⟨h1, World.ownsRow.frozenAt h _⟩
end Go.Proofs.Ytimaehaaidjokaa.Rec
