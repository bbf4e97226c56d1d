/- Blocks of memory by their cells: what they hold behind stores, and a world in which one block alone may have turned; of no program. -/
import Derived.Below
import Derived.WalkKit
import Derived.Laws.Rows
namespace Go.Proofs.Ytoomanlonhnleaa.Boxes
open Go.RowKit

theorem cell_at {w : World} {b i : Nat} {cs : Array Value} {t : TypeId} {v : Value} (h : w.heap[b]? = some (.cells cs t)) (hi : cs[i]? = some v) : w.cell? ⟨b, i, none⟩ = some v := by
  simp [World.cell?, h, hi]
theorem frozen_at {w : World} {b i : Nat} {cs : Array Value} {t : TypeId} (h : w.heap[b]? = some (.cells cs t)) : w.frozen? ⟨b, i, none⟩ = false := by
  simp [World.frozen?, h]
theorem lt_of {w : World} {b : Nat} {o : Obj} (h : w.heap[b]? = some o) : b < w.heap.size := (Array.getElem?_eq_some_iff.1 h).1
theorem keep {w w' : World} {b : Nat} {o : Obj} (h : w.heap[b]? = some o) (hb : Below w.heap.size w w') : w'.heap[b]? = some o := (hb.block b (lt_of h)).trans h
theorem fresh (w : World) (o : Obj) : (w.alloc o).heap[w.heap.size]? = some o := by
  show (w.heap.push o)[w.heap.size]? = _
  simp
theorem size_alloc (w : World) (o : Obj) : (w.alloc o).heap.size = w.heap.size + 1 := Array.size_push ..
theorem fresh1 (w : World) (o p : Obj) : ((w.alloc o).alloc p).heap[w.heap.size + 1]? = some p := by
  have := fresh (w.alloc o) p
  rwa [size_alloc] at this
theorem fresh2 (w : World) (o p q : Obj) : (((w.alloc o).alloc p).alloc q).heap[w.heap.size + 2]? = some q := by
  have := fresh1 (w.alloc o) p q
  rwa [size_alloc] at this
theorem fresh3 (w : World) (o p q r : Obj) : ((((w.alloc o).alloc p).alloc q).alloc r).heap[w.heap.size + 3]? = some r := by
  have := fresh2 (w.alloc o) p q r
  rwa [size_alloc] at this
theorem old (w : World) (o : Obj) : Below w.heap.size w (w.alloc o) := (Below.refl _ _).alloc (Nat.le_refl _) _

/-- Three values stored into one block. -/
def set3 (T : Nat) (a b c : Value) (w : World) : World := ((w.setCell ⟨T, 0, none⟩ a).setCell ⟨T, 1, none⟩ b).setCell ⟨T, 2, none⟩ c
theorem set3_box {w : World} {T : Nat} {x y z : Value} {t : TypeId} (h : w.heap[T]? = some (.cells #[x, y, z] t)) (a b c : Value) : (set3 T a b c w).heap[T]? = some (.cells #[a, b, c] t) := by
  unfold set3
  have h1 := heap_setCell_same w T 0 _ _ a h
  have h2 := heap_setCell_same _ T 1 _ _ b h1
  have h3 := heap_setCell_same _ T 2 _ _ c h2
  rw [h3]
  rfl
theorem set3_below {H T : Nat} {a b c : Value} {w0 w : World} (h : Below H w0 w) (hT : H ≤ T) : Below H w0 (set3 T a b c w) := ((h.setCell hT _).setCell hT _).setCell hT _
theorem cells3 {w : World} {T : Nat} {x y z : Value} {t : TypeId} (h : w.heap[T]? = some (.cells #[x, y, z] t)) :
    w.cell? ⟨T, 0, none⟩ = some x ∧ w.cell? ⟨T, 1, none⟩ = some y ∧ w.cell? ⟨T, 2, none⟩ = some z ∧ w.frozen? ⟨T, 0, none⟩ = false ∧ w.frozen? ⟨T, 1, none⟩ = false ∧ w.frozen? ⟨T, 2, none⟩ = false :=
  ⟨cell_at h rfl, cell_at h rfl, cell_at h rfl, frozen_at h, frozen_at h, frozen_at h⟩

/-- All that was there is as it was, but for one block. -/
structure But (R : Nat) (w w' : World) : Prop where
  os : w'.os = w.os
  tape : w'.tape = w.tape
  output : w'.output = w.output
  size : w.heap.size ≤ w'.heap.size
  block : ∀ k, k < w.heap.size → k ≠ R → w'.heap[k]? = w.heap[k]?
theorem But.of_below {R : Nat} {w w' : World} (h : Below w.heap.size w w') : But R w w' := ⟨h.os, h.tape, h.output, h.size, fun k hk _ => h.block k hk⟩
theorem But.refl (R : Nat) (w : World) : But R w w := But.of_below (Below.refl _ _)
theorem But.trans {R : Nat} {a b c : World} (h : But R a b) (k : But R b c) : But R a c :=
  ⟨k.os.trans h.os, k.tape.trans h.tape, k.output.trans h.output, Nat.le_trans h.size k.size, fun i hi hn => (k.block i (Nat.lt_of_lt_of_le hi h.size) hn).trans (h.block i hi hn)⟩
theorem But.set {R : Nat} {w w' : World} (h : But R w w') (j : Nat) (v : Value) : But R w (w'.setCell ⟨R, j, none⟩ v) :=
  ⟨h.os, h.tape, h.output, by simpa using h.size, fun k hk hn => (heap_setCell_other _ _ _ _ (by simpa using hn)).trans (h.block k hk hn)⟩
theorem But.below {R B : Nat} {w w' : World} (h : But R w w') (hR : B ≤ R) (hB : B ≤ w.heap.size) : Below B w w' :=
  ⟨h.os, h.tape, h.output, h.size, fun k hk => h.block k (by omega) (by omega)⟩
theorem But.keep {R b : Nat} {w w' : World} {o : Obj} (h : But R w w') (hk : w.heap[b]? = some o) (hn : b ≠ R) : w'.heap[b]? = some o := (h.block b (lt_of hk) hn).trans hk
theorem But.cell {R : Nat} {w w' : World} {a : Addr} (h : But R w w') (hl : a.block < w.heap.size) (hn : a.block ≠ R) : w'.cell? a = w.cell? a := World.cell?_of_block (w := w) (h.block a.block hl hn)
theorem But.own {R B n : Nat} {w w' : World} {e : TypeId} {sz : Nat} {v : Value} {xs : List Value} (h : w.ownsRow B e sz v n xs) (hb : But R w w') (hR : R < B) : w'.ownsRow B e sz v n xs := by
  refine ⟨h.1, ?_⟩
  have h' := h
  rcases h.2 with h0 | ⟨g, cap, cur, hv, h1, h2, h3⟩
  · exact .inl h0
  · refine .inr ⟨g, cap, cur, hv, h1, ?_, h3⟩
    rw [hb.block g (h'.lt g (by rw [hv]; rfl)).2 (by omega)]
    exact h2
theorem But.more {R : Nat} {w a b : World} (h : But R w a) (hb : Below w.heap.size a b) : But R w b :=
  ⟨hb.os.trans h.os, hb.tape.trans h.tape, hb.output.trans h.output, Nat.le_trans h.size hb.size, fun k hk hn => (hb.block k hk).trans (h.block k hk hn)⟩
/-- A block behind a new one and an append onto another row. -/
theorem after {w w' : World} {o : Obj} {row : Option Nat} {b : Nat} {ob : Obj} (hk : w.heap[b]? = some ob) (hg : (w.alloc o).grownBy w' row) (hr : row ≠ some b) : w'.heap[b]? = some ob :=
  (hg.block b (lt_of (keep hk (old w o))) (fun e => hr e.symm)).trans (keep hk (old w o))
end Go.Proofs.Ytoomanlonhnleaa.Boxes
