/- Rows of texts that stand in blocks of some kind, kept while others are written; of no program. -/
import Derived.Test.YtcgknkbigbbfdaaDoorSParse
namespace Go.Proofs.YtcgknkbigbbfdaaDoor.Sel
open Go.RowKit Go.Proofs.YtcgknkbigbbfdaaDoor.Texts Go.Proofs.YtcgknkbigbbfdaaDoor.Boxes

/-- A slice of texts whose row stands in a block of that kind. -/
def SIn (p : Nat → Prop) (w : World) (v : Value) (ts : List ByteArray) : Prop := SRow w v ts ∧ ∀ g o n c, v = .slice (some ⟨g, o, none⟩) n c → ts ≠ [] → p g
theorem SIn.row {p : Nat → Prop} {w : World} {v : Value} {ts : List ByteArray} (h : SIn p w v ts) : SRow w v ts := h.1
theorem SIn.kept {p q : Nat → Prop} {w w' : World} {v : Value} {ts : List ByteArray} (h : SIn p w v ts) (hs : w.heap.size ≤ w'.heap.size) (hk : ∀ g, p g → g < w.heap.size → w'.heap[g]? = w.heap[g]? ∧ q g) : SIn q w' v ts := by
  have hlt : ∀ g o n c, v = .slice (some ⟨g, o, none⟩) n c → ts ≠ [] → g < w.heap.size := fun g o n c e hn => by
    rcases h.1 with ⟨h1, _⟩ | ⟨_, g', o', c', h1, h2, _⟩
    · exact absurd h1 hn
    · rw [e] at h1
      injection h1 with h1 _ _
      injection h1 with h1
      injection h1 with h1 _ _
      omega
  refine ⟨?_, fun g o n c e hn => (hk g (h.2 g o n c e hn) (hlt g o n c e hn)).2⟩
  rcases h.1 with h1 | ⟨h0, g, o, cap, h1, h2, h3, h4, h5⟩
  · exact .inl h1
  · refine .inr ⟨h0, g, o, cap, h1, by omega, h3, h4, fun j t hj => ?_⟩
    rw [World.cell?_of_block (w := w) (w' := w') (a := ⟨g, o + j, none⟩) (hk g (h.2 g o _ _ h1 h0) h2).1]
    exact h5 j t hj
theorem SNew.sin {B : Nat} {w : World} {v : Value} {ts : List ByteArray} (h : SNew B w v ts) : SIn (fun g => B ≤ g) w v ts := h
/-- The terms that were made, each in blocks of that kind. -/
def In (p : Nat → Prop) (w : World) (xs : List (Tm × Value)) : Prop := ∀ x ∈ xs, SIn p w x.2 x.1.2.2
theorem In.kept {p q : Nat → Prop} {w w' : World} {xs : List (Tm × Value)} (h : In p w xs) (hs : w.heap.size ≤ w'.heap.size) (hk : ∀ g, p g → g < w.heap.size → w'.heap[g]? = w.heap[g]? ∧ q g) : In q w' xs := fun x hx => (h x hx).kept hs hk
theorem In.snoc {p : Nat → Prop} {w : World} {xs : List (Tm × Value)} {x : Tm × Value} (h : In p w xs) (hx : SIn p w x.2 x.1.2.2) : In p w (xs ++ [x]) := fun y hy => by
  rcases List.mem_append.1 hy with hy | hy
  · exact h y hy
  · rw [List.mem_singleton.1 hy]; exact hx
/-- The kind: from a block on, and not the one that a row of one's own stands in. -/
def Beside (B : Nat) (v : Value) (g : Nat) : Prop := B ≤ g ∧ v.ownBlock ≠ some g

/-- What lies in memory while a selector is made: its variable, its row, what stands in it. -/
structure Making (H B : Nat) (w : World) (v : Value) (xs : List (Tm × Value)) : Prop where
  cell : w.heap[H]? = some (.cells #[v] 22)
  own : w.ownsRow B 51 3 v xs.length (tvals xs)
  terms : In (Beside B v) w xs
theorem Making.trow {H B : Nat} {w : World} {v : Value} {xs : List (Tm × Value)} (h : Making H B w v xs) : TRow w v (xs.map (·.1)) := own_trow h.own fun x hx => (h.terms x hx).1
/-- One more term, appended and stored. -/
theorem Making.step {H B : Nat} {w w3 w4 : World} {v : Value} {xs : List (Tm × Value)} {t : Tm} {s : Value} {g cap : Nat} {o : Obj} (hH : H < B) (h : Making H B w v xs) {q : Nat → Prop} (hqH : q H) (hqB : ∀ k, B ≤ k → q k) (hBw : B ≤ w.heap.size) (h3s : w.heap.size ≤ w3.heap.size) (h3 : ∀ k, k < w.heap.size → q k → w3.heap[k]? = w.heap[k]?) (hs : SNew w.heap.size w3 s t.2.2)
    (hown : w4.ownsRow B 51 3 (.slice (some ⟨g, 0, none⟩) (xs.length + 1) cap) (xs.length + 1) (tvals xs ++ tcells (t, s)))
    (hgrow : (w3.alloc o).grownBy w4 v.ownBlock) (hat : v.ownBlock = some g ∨ g = w3.heap.size + 1) :
    Making H B (w4.setCell ⟨H, 0, none⟩ (.slice (some ⟨g, 0, none⟩) (xs.length + 1) cap)) (.slice (some ⟨g, 0, none⟩) (xs.length + 1) cap) (xs ++ [(t, s)]) ∧
    (∀ k, k < w.heap.size → q k → k ≠ H → v.ownBlock ≠ some k → (w4.setCell ⟨H, 0, none⟩ (.slice (some ⟨g, 0, none⟩) (xs.length + 1) cap)).heap[k]? = w.heap[k]?) ∧ w.heap.size ≤ w4.heap.size ∧ (∀ k, v.ownBlock = some k → B ≤ k ∧ k < w.heap.size) := by
  have hvo : ∀ k, v.ownBlock = some k → B ≤ k ∧ k < w.heap.size := fun k hk => h.own.lt k hk
  have hsz : w3.heap.size + 1 ≤ w4.heap.size := by have := hgrow.size; rw [size_alloc] at this; exact this
  have keep3 : ∀ k, k < w3.heap.size → k ≠ H → v.ownBlock ≠ some k → (w4.setCell ⟨H, 0, none⟩ (.slice (some ⟨g, 0, none⟩) (xs.length + 1) cap)).heap[k]? = w3.heap[k]? := fun k hk hn ho => by
    rw [heap_setCell_other _ _ _ _ (by simpa using hn), hgrow.block k (by rw [size_alloc]; omega) (fun e => ho e.symm)]
    exact Below.heap_alloc _ _ _ hk
  have hg : v.ownBlock = some g ∨ w3.heap.size < g := hat.imp id (by omega)
  refine ⟨⟨?_, ?_, ?_⟩, fun k hk hq hn ho => (keep3 k (by omega) hn ho).trans (h3 k hk hq), by omega, hvo⟩
  · have hc : w4.heap[H]? = some (.cells #[v] 22) := by
      have hHw := lt_of h.cell
      rw [hgrow.block H (by rw [size_alloc]; omega) (fun e => by have := hvo H e.symm; omega), Below.heap_alloc _ _ _ (by omega), h3 H hHw hqH]
      exact h.cell
    exact heap_setCell_same _ H 0 _ _ _ hc
  · rw [List.length_append, tvals_snoc]
    exact ownsRow_setCell_below hown (by simpa using hH) _
  · refine In.snoc ?_ ?_
    · refine h.terms.kept (by simp; omega) fun k ⟨hk1, hk2⟩ hk3 => ⟨(keep3 k (by omega) (by omega) hk2).trans (h3 k hk3 (hqB k hk1)), hk1, ?_⟩
      rcases hg with hg | hg
      · intro e
        simp [Value.ownBlock] at e
        subst e
        exact hk2 hg
      · intro e
        simp [Value.ownBlock] at e
        omega
    · refine hs.sin.kept (by simp; omega) fun k hk1 hk3 => ⟨keep3 k hk3 (by omega) (fun e => by have := hvo k e; omega), by omega, ?_⟩
      rcases hg with hg | hg
      · intro e
        simp [Value.ownBlock] at e
        subst e
        have := hvo _ hg
        omega
      · intro e
        simp [Value.ownBlock] at e
        omega
end Go.Proofs.YtcgknkbigbbfdaaDoor.Sel
