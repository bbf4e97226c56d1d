/- What the laws on disks share: what run hands back, laid into memory; an act's argument. -/
import Derived.Test.YtoomanlonhnleaaDRunM
import Derived.Test.YtoomanlonhnleaaEnd
import Derived.Deep.DeepCutAuto
namespace Go.Proofs.Ytoomanlonhnleaa.Disk
open Go.RowKit

/-- What is known of run. -/
def RunSays : Prop := ∀ (N : Nat), N ≤ 100000 → ∀ (ls : List Ac) (v : Value), (∀ t ∈ ls, t.ok) → (∀ t ∈ ls, t.2.2.1.size ≤ 1125899906842624) → ∀ (w : World), ARow w v ls →
    Calls Try.prog 28 #[valD (new N), v] w fun e w' => ∃ d a b, Ok N d a b ∧ e = .returned (retR d a b) ∧ Below w.heap.size w w'
/-- What run handed back, in memory. -/
structure Laid (w W : World) (n : Nat) (d : Dk) (a b : ByteArray) : Prop where
  d : W.heap[n]? = some (box d)
  s : W.heap[n + 1]? = some (pair a b)
  b : Below w.heap.size w W
theorem Laid.more {w W W' : World} {n : Nat} {d : Dk} {a b : ByteArray} (h : Laid w W n d a b) (hb : Below W.heap.size W W') : Laid w W' n d a b := ⟨Boxes.keep h.d hb, Boxes.keep h.s hb, grows h.b hb⟩
theorem laid_box (w : World) : ((w.alloc zeroD).alloc (pair ⟨#[]⟩ ⟨#[]⟩)).heap[w.heap.size]? = some zeroD := Boxes.keep (Boxes.fresh _ _) (Boxes.old _ _)
theorem laid_pair (w : World) (d : Dk) : (((w.alloc zeroD).alloc (pair ⟨#[]⟩ ⟨#[]⟩)).setRow w.heap.size (cellsD d)).heap[w.heap.size + 1]? = some (pair ⟨#[]⟩ ⟨#[]⟩) :=
  (setRow_other _ _ _ _ (by omega)).trans (Boxes.fresh1 _ _ _)
theorem laid_all {w0 w : World} (h : Below w0.heap.size w0 w) (d : Dk) (a b : ByteArray) : Laid w0 ((((w.alloc zeroD).alloc (pair ⟨#[]⟩ ⟨#[]⟩)).setRow w.heap.size (cellsD d)).setRow (w.heap.size + 1) #[.string a, .string b]) w.heap.size d a b :=
  ⟨(setRow_other _ _ _ _ (by omega)).trans (setRow_heap _ _ _ _ _ _ (laid_box w)), setRow_heap _ _ _ _ _ _ (laid_pair w d),
    Whole.row_below (Whole.row_below (grows (grows h (Boxes.old _ _)) (Boxes.old _ _)) h.size _) (Nat.le_succ_of_le h.size) _⟩
end Go.Proofs.Ytoomanlonhnleaa.Disk
