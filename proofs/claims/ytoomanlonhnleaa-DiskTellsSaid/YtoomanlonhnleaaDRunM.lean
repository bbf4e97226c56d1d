/- The memory of demesnelaw09.run while it goes on; of no walk. -/
import Derived.Test.YtoomanlonhnleaaDExamV
import Derived.Test.YtoomanlonhnleaaDOk
import Derived.Test.YtoomanlonhnleaaDActs
import Derived.Test.YtoomanlonhnleaaLate
namespace Go.Proofs.Ytoomanlonhnleaa.Disk
open Go.RowKit

abbrev pair (a b : ByteArray) : Obj := .cells #[.string a, .string b] 56
theorem szP : (Try.prog.info? 56).map (·.size) = some 2 := by kernel_rfl
theorem one2 (a b : ByteArray) : (#[.string a, .string b] : Array Value).all (·.oneCell') = true := by simp [Value.oneCell']
/-- What lies in memory: the disk, the one that is handed back, what is handed back of the files, what is safe of them. -/
structure RM (w W : World) (d : Dk) (a b : ByteArray) : Prop where
  d : W.heap[w.heap.size]? = some (box d)
  r : W.heap[w.heap.size + 1]? = some zeroD
  q : W.heap[w.heap.size + 1 + 1]? = some (pair ⟨#[]⟩ ⟨#[]⟩)
  s : W.heap[w.heap.size + 1 + 1 + 1]? = some (pair a b)
  b : Below w.heap.size w W
theorem rm_start (w : World) (d : Dk) : RM w ((((w.alloc (box d)).alloc zeroD).alloc (pair ⟨#[]⟩ ⟨#[]⟩)).alloc (pair ⟨#[]⟩ ⟨#[]⟩)) d empty empty :=
  ⟨Boxes.keep (Boxes.keep (Boxes.keep (Boxes.fresh _ _) (Boxes.old _ _)) (Boxes.old _ _)) (Boxes.old _ _), Boxes.keep (Boxes.keep (Boxes.fresh1 _ _ _) (Boxes.old _ _)) (Boxes.old _ _), Boxes.keep (Boxes.fresh2 _ _ _ _) (Boxes.old _ _), Boxes.fresh3 _ _ _ _ _,
    grows (grows (grows (Boxes.old _ _) (Boxes.old _ _)) (Boxes.old _ _)) (Boxes.old _ _)⟩
theorem RM.more {w W W' : World} {d : Dk} {a b : ByteArray} (h : RM w W d a b) (hb : Below W.heap.size W W') : RM w W' d a b :=
  ⟨Boxes.keep h.d hb, Boxes.keep h.r hb, Boxes.keep h.q hb, Boxes.keep h.s hb, grows h.b hb⟩
theorem RM.drew {w W : World} {d : Dk} {a b : ByteArray} (h : RM w W d a b) : RM w W.drew d a b := h.more (Below.refl _ _).drew
theorem RM.put {w W : World} {d : Dk} {a b : ByteArray} (h : RM w W d a b) (x : Dk) : RM w (W.setRow w.heap.size (cellsD x)) x a b :=
  ⟨setRow_heap W _ _ _ _ _ h.d, (setRow_other W _ _ _ (by omega)).trans h.r, (setRow_other W _ _ _ (by omega)).trans h.q, (setRow_other W _ _ _ (by omega)).trans h.s, Whole.row_below h.b (Nat.le_refl _) _⟩
theorem RM.safe0 {w W : World} {d : Dk} {a b : ByteArray} (h : RM w W d a b) (x : ByteArray) : RM w (W.setCell ⟨w.heap.size + 1 + 1 + 1, 0, none⟩ (.string x)) d x b :=
  ⟨(heap_setCell_other _ _ _ _ (show w.heap.size ≠ _ by simp; omega)).trans h.d, (heap_setCell_other _ _ _ _ (show w.heap.size + 1 ≠ _ by simp)).trans h.r, (heap_setCell_other _ _ _ _ (show w.heap.size + 1 + 1 ≠ _ by simp)).trans h.q, heap_setCell_same W _ 0 _ _ (.string x) h.s, h.b.setCell (by simp; omega) _⟩
theorem RM.safe1 {w W : World} {d : Dk} {a b : ByteArray} (h : RM w W d a b) (x : ByteArray) : RM w (W.setCell ⟨w.heap.size + 1 + 1 + 1, 1, none⟩ (.string x)) d a x :=
  ⟨(heap_setCell_other _ _ _ _ (show w.heap.size ≠ _ by simp; omega)).trans h.d, (heap_setCell_other _ _ _ _ (show w.heap.size + 1 ≠ _ by simp)).trans h.r, (heap_setCell_other _ _ _ _ (show w.heap.size + 1 + 1 ≠ _ by simp)).trans h.q, heap_setCell_same W _ 1 _ _ (.string x) h.s, h.b.setCell (by simp; omega) _⟩
theorem max_run (x y z : Int) (h : (x < y ∧ z = y) ∨ (y ≤ x ∧ z = x)) (w : World) : (Builtin.max_ #[3, 3] 3 #[.int .i64 x, .int .i64 y]).run Try.prog w = .ok (.int .i64 z) w := by
  rcases h with ⟨h, rfl⟩ | ⟨h, rfl⟩
  · go_simp
  · go_simp
    intro k
    omega
theorem min_run (x y z : Int) (h : (x ≤ y ∧ z = x) ∨ (y ≤ x ∧ z = y)) (w : World) : (Builtin.min_ #[3, 3] 3 #[.int .i64 x, .int .i64 y]).run Try.prog w = .ok (.int .i64 z) w := by
  rcases h with ⟨h, rfl⟩ | ⟨h, rfl⟩
  · go_simp
    intro k
    omega
  · go_simp
    intro k
    omega
/-- What run hands back. -/
def retR (d : Dk) (a b : ByteArray) : Value := .tuple #[valD d, .agg #[.string a, .string b]]
theorem result_run {fn : Func} {p q : Tmp} (h : fn.results = #[.cell p 26, .cell q 56]) (tmps : Array Value) (w : World) {b c : Nat} (d : Dk) (s0 s1 : ByteArray) (hp : tmps.getD p undef = .pointer (some ⟨b, 0, none⟩)) (hq : tmps.getD q undef = .pointer (some ⟨c, 0, none⟩))
    (hb : w.heap[b]? = some (box d)) (hc : w.heap[c]? = some (pair s0 s1)) : (results fn tmps).run Try.prog w = .ok (retR d s0 s1) w := by
  have h1 := run_loadVar_row (P := Try.prog) w b 26 26 (cellsD d) (0, 0) _ hb Try.underlying26 rfl szD
  have h2 := run_loadVar_row (P := Try.prog) w c 56 56 #[.string s0, .string s1] (0, 0) _ hc Try.underlying56 rfl szP
  have hp' : tmps[p]?.getD undef = .pointer (some ⟨b, 0, none⟩) := by rw [← hp, Array.getD_eq_getD_getElem?]
  have hq' : tmps[q]?.getD undef = .pointer (some ⟨c, 0, none⟩) := by rw [← hq, Array.getD_eq_getD_getElem?]
  simp only [results, h]
  simp [hp', hq', asAddr, h1, h2, retR, valD]
/-- The memory at the end: the disk and what is safe, laid where they are handed back. -/
theorem RM.end_ {w W : World} {d : Dk} {a b : ByteArray} (h : RM w W d a b) :
    (((W.setRow (w.heap.size + 1) (cellsD d)).setRow (w.heap.size + 1 + 1) #[.string a, .string b]).heap[w.heap.size + 1]? = some (box d)) ∧
    (((W.setRow (w.heap.size + 1) (cellsD d)).setRow (w.heap.size + 1 + 1) #[.string a, .string b]).heap[w.heap.size + 1 + 1]? = some (pair a b)) ∧
    (W.setRow (w.heap.size + 1) (cellsD d)).heap[w.heap.size + 1 + 1]? = some (pair ⟨#[]⟩ ⟨#[]⟩) ∧
    Below w.heap.size w ((W.setRow (w.heap.size + 1) (cellsD d)).setRow (w.heap.size + 1 + 1) #[.string a, .string b]) := by
  have h1 : (W.setRow (w.heap.size + 1) (cellsD d)).heap[w.heap.size + 1 + 1]? = some (pair ⟨#[]⟩ ⟨#[]⟩) := (setRow_other W _ _ _ (by omega)).trans h.q
  have h2 : (W.setRow (w.heap.size + 1) (cellsD d)).heap[w.heap.size + 1]? = some (box d) := setRow_heap W _ _ _ _ _ h.r
  exact ⟨(setRow_other _ _ _ _ (by omega)).trans h2, setRow_heap _ _ _ _ _ _ h1, h1, Whole.row_below (Whole.row_below h.b (by omega) _) (by omega) _⟩
end Go.Proofs.Ytoomanlonhnleaa.Disk
