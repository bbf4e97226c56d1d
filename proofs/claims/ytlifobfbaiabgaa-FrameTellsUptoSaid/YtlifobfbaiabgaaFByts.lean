/- A row of bytes in a block of its own: made, filled place by place, read as a text; of no function of the program. -/
import Derived.Test.YtlifobfbaiabgaaFNum
import Derived.Laws.MakeOwn
import Derived.Laws.IdiomStrings
import Derived.Lib.ConvBytes
namespace Go.Proofs.Ytlifobfbaiabgaa.Frame
open Go.RowKit

theorem infoB : (Try.prog.info? 5).map (fun i => (i.zero, i.size, i.bytes)) = some (some (.int .u8 0), 1, 1) := by kernel_rfl

/-- Block g holds the bytes l from its beginning on, and may be written. -/
def Byts (w : World) (g : Nat) (l : List UInt8) : Prop := g < w.heap.size ∧ ∀ i c, l[i]? = some c → w.cell? ⟨g, i, none⟩ = some (.int .u8 (c.toNat : Int)) ∧ w.frozen? ⟨g, i, none⟩ = false
theorem Byts.at {w : World} {g i : Nat} {l : List UInt8} {c : UInt8} (h : Byts w g l) (hi : l[i]? = some c) : w.cell? ⟨g, i, none⟩ = some (.int .u8 (c.toNat : Int)) ∧ w.frozen? ⟨g, i, none⟩ = false := h.2 i c hi
theorem Byts.below {w w' : World} {g : Nat} {l : List UInt8} (h : Byts w g l) (hb : Below w.heap.size w w') : Byts w' g l := by
  refine ⟨Nat.lt_of_lt_of_le h.1 hb.size, fun i c hi => ?_⟩
  have e := hb.block g h.1
  obtain ⟨h1, h2⟩ := h.2 i c hi
  refine ⟨?_, ?_⟩
  · unfold World.cell? at h1 ⊢
    rw [e]
    exact h1
  · unfold World.frozen? at h2 ⊢
    rw [e]
    exact h2
theorem Byts.set {w : World} {g k : Nat} {l : List UInt8} (h : Byts w g l) (c : UInt8) (hk : k < l.length) : Byts (w.setCell ⟨g, k, none⟩ (.int .u8 (c.toNat : Int))) g (l.set k c) := by
  refine ⟨by simpa using h.1, fun i d hi => ?_⟩
  have hil : i < l.length := by
    have := (List.getElem?_eq_some_iff.1 hi).1
    simpa using this
  have hk1 := h.2 k l[k] (List.getElem?_eq_getElem hk)
  have hi1 := h.2 i l[i] (List.getElem?_eq_getElem hil)
  refine ⟨?_, by rw [World.frozen?_setCell]; exact hi1.2⟩
  by_cases hik : k = i
  · subst hik
    rw [List.getElem?_set_self hk] at hi
    cases hi
    exact World.cell?_setCell_same' _ _ _ (by rw [hk1.1]; rfl)
  · rw [List.getElem?_set_ne hik, List.getElem?_eq_getElem hil] at hi
    cases hi
    rw [World.cell?_setCell_other _ _ _ _ (by intro h; injection h with _ h _; exact hik h)]
    exact hi1.1
theorem Byts.conv {w : World} {g n cap : Nat} {l : List UInt8} (h : Byts w g l) (hn : l.length = n) :
    (convert 26 9 (.slice (some ⟨g, 0, none⟩) n cap)).run Try.prog w = .ok (.string (str l)) w := by
  subst hn
  have := run_convert_bytes_arg (P := Try.prog) w 26 5 Try.underlying26 Try.underlying5 g 0 l.length cap (l.map fun c => (c.toNat : Int)) (by simp) (fun i hi => by
    rw [Nat.zero_add, (h.2 i l[i] (List.getElem?_eq_getElem hi)).1]
    simp [hi]) 9 Try.underlying9
  rw [this]
  congr 2
  simp only [strOfNums, str, List.map_map]
  congr 1
  congr 1
  exact (List.map_congr_left fun c _ => by simp).trans (List.map_id _)
theorem byts_make (w : World) (n : Nat) (hn : n ≤ 281474976710656) :
    ∃ w', (Instr.makeSlice 26 (.int .i64 (n : Int)) (.int .i64 (n : Int))).run Try.prog w = .ok (.slice (some ⟨w.heap.size, 0, none⟩) n n) w' ∧ Byts w' w.heap.size (List.replicate n 0) ∧ Below w.heap.size w w' := by
  obtain ⟨i0, hi, hz0, hz1, hz2⟩ := info_parts infoB
  have hr := run_make (P := Try.prog) w 26 5 i0 (.int .u8 0) Try.underlying26 hi hz0 .i64 .i64 n n (by omega) (Int.le_refl _) (by rw [hz2]; omega) (by omega)
  rw [hz1] at hr
  simp only [Int.toNat_natCast, Nat.mul_one] at hr
  refine ⟨_, hr, ⟨by simp, fun i c hi => ?_⟩, (Below.refl _ _).alloc (Nat.le_refl _) _⟩
  obtain ⟨hl, hc⟩ := List.getElem?_eq_some_iff.1 hi
  rw [List.length_replicate] at hl
  rw [List.getElem_replicate] at hc
  subst hc
  refine ⟨?_, by simp only [World.frozen?, heap_alloc_new]; simp⟩
  rw [cell_of_row _ _ i (madeCells (Value.int .u8 0).cells n) 5 (0, 0) (heap_alloc_new w _)]
  simp [madeCells, hl, Value.cells, Nat.mod_one]
theorem byts_of (w : World) (s : ByteArray) :
    ∃ w' G, (convert 9 26 (.string s)).run Try.prog w = .ok (.slice (some ⟨w.heap.size, 0, none⟩) s.size G) w' ∧ s.size ≤ G ∧ Byts w' w.heap.size s.data.toList ∧ Below w.heap.size w w' := by
  refine ⟨Lib.bytesWorld w 5 s, grownCap w s.size 0 5, Lib.run_convert_string_bytes (P := Try.prog) w 9 26 5 s Try.underlying9 Try.underlying26 Try.underlying5, grownCap_ge w _ _ _, ⟨by rw [Lib.bytesWorld_size]; omega, fun i c hi => ?_⟩, ⟨rfl, rfl, rfl, by rw [Lib.bytesWorld_size]; omega, fun k hk => Lib.bytesWorld_at_old w 5 s k hk⟩⟩
  have hl := (List.getElem?_eq_some_iff.1 hi).1
  rw [size_list] at hl
  refine ⟨?_, ?_⟩
  · rw [Lib.bytesWorld_cell w 5 s i hl, List.getD_eq_getElem?_getD, hi]
    rfl
  · simp only [World.frozen?, Lib.bytesWorld_at_new]
    have : s.size ≤ (Lib.bytesCells w 5 s).size := by unfold Lib.bytesCells; rw [Array.size_append, Array.size_map]; show s.size ≤ s.size + _; omega
    simp
    omega
theorem xor_int (a b : UInt8) : bits .xor .u8 (a.toNat : Int) (b.toNat : Int) = ((a ^^^ b).toNat : Int) := by
  rw [u8_xor_nat _ _ (UInt8.toNat_lt _) (UInt8.toNat_lt _), UInt8.toNat_xor]
end Go.Proofs.Ytlifobfbaiabgaa.Frame
