/- Rows of slots of one's own: one slot, and any row, appended. -/
import Derived.Test.YtbefnophkaepmaaKPart
namespace Go.Proofs.Ytbefnophkaepmaa.Pack
open Go.RowKit Go.Proofs.Ytbefnophkaepmaa.Label Go.Proofs.Ytbefnophkaepmaa.Sel Go.Proofs.Ytbefnophkaepmaa.Vec Go.Proofs.Ytbefnophkaepmaa.Texts

/-- A row of slots of one's own. -/
def SMine (T : TypeId) (w : World) (B : Nat) (v : Value) (xs : List SV) : Prop := w.ownsRow B T 6 v xs.length (xs.flatMap cellsP)
/-- A row of slots that can be read. -/
def SRead (w : World) (u : Value) (ys : List SV) : Prop :=
  (ys = [] ∧ ∃ a cap, u = .slice a 0 cap) ∨ ∃ g o cap, u = .slice (some ⟨g, o, none⟩) ys.length cap ∧ ∀ k x, (ys.flatMap cellsP)[k]? = some x → w.cell? ((⟨g, o, none⟩ : Addr).add k) = some x
theorem SMine.nil (T : TypeId) (w : World) (B : Nat) : SMine T w B (.slice none 0 0) [] := World.ownsRow_nil _ _ _ _
theorem SMine.read {T : TypeId} {w : World} {B : Nat} {v : Value} {xs : List SV} (h : SMine T w B v xs) : SRead w v xs := by
  have hc := fun g hg => World.ownsRow.cells h (g := g) hg
  rcases h.2 with ⟨rfl, h0⟩ | ⟨g, cap, cur, rfl, _⟩
  · exact .inl ⟨List.eq_nil_of_length_eq_zero h0, _, _, rfl⟩
  · exact .inr ⟨g, 0, cap, rfl, fun k x hk => hc g rfl k x hk⟩
theorem SMine.slice {T : TypeId} {w : World} {B : Nat} {v : Value} {xs : List SV} (h : SMine T w B v xs) : ∃ a cap, v = .slice a xs.length cap := by
  rcases h.2 with ⟨rfl, h0⟩ | ⟨g, cap, cur, rfl, _⟩
  · exact ⟨_, _, by rw [h0]⟩
  · exact ⟨_, _, rfl⟩
theorem SMine.below {T : TypeId} {w w' : World} {B : Nat} {v : Value} {xs : List SV} (h : SMine T w B v xs) (hb : Below w.heap.size w w') : SMine T w' B v xs := own_keep h hb
theorem SRead.of {w : World} {u : Value} {ls : List Slot} (hr : SlRow w u ls) : ∃ ys : List SV, ys.map (·.1) = ls ∧ SRead w u ys ∧ ∀ p ∈ ys, Row w p.2 p.1.labs ∧ p.1.ok := by
  rcases hr with ⟨rfl, ad, cap, rfl, _⟩ | ⟨_, g, o, cap, rfl, hg, hcap, hm, hcell⟩
  · exact ⟨[], rfl, .inl ⟨rfl, _, _, rfl⟩, fun p hp => by simp at hp⟩
  · obtain ⟨xs, e, hx⟩ := hcell.values
    refine ⟨xs, e, .inr ⟨g, o, cap, by rw [← e, List.length_map], fun k u hk => ?_⟩, fun p hp => ?_⟩
    · obtain ⟨j, i, p, hk', hj, hi⟩ := fm6_at xs k u hk
      rw [Addr.add_lit, hk', ← Nat.add_assoc]
      exact (hx j p hj).1 i u hi
    · obtain ⟨j, hj⟩ := List.mem_iff_getElem?.1 hp
      exact (hx j p hj).2
theorem SRead.behind {w w' : World} {u : Value} {ls : List Slot} {ys : List SV} (hr : SlRow w u ls) (h : SRead w u ys) (hb : Below w.heap.size w w') : SRead w' u ys := by
  rcases h with h | ⟨g, o, cap, rfl, hc⟩
  · exact .inl h
  · refine .inr ⟨g, o, cap, rfl, fun k x hk => ?_⟩
    rw [Addr.add_lit]
    have hx := hc k x hk
    rw [Addr.add_lit] at hx
    have hg : g < w.heap.size := by
      have := World.block_lt_of_cell? w _ hx
      exact this
    exact (hb.cell (p := ⟨g, o + k, none⟩) hg).trans hx
theorem SMine.one (T : TypeId) (w : World) {B : Nat} (hB : B ≤ w.heap.size) (s : Slot) (lv : Value) : SMine T (w.alloc (.cells #[.string s.node, .int .u64 (s.free 0), .int .u64 (s.free 1), .int .u64 (s.free 2), .int .u64 (s.free 3), lv] T)) B (.slice (some ⟨w.heap.size, 0, none⟩) 1 1) [(s, lv)] :=
  ⟨rfl, .inr ⟨w.heap.size, 1, _, rfl, hB, heap_alloc_new w _, Nat.le_refl _, by decide, rfl, rfl⟩⟩
theorem sappend_empty {T ts : TypeId} (ht : Try.prog.underlying ts = some (.slice T)) (hT : (Try.prog.info? T).map (fun i => (i.zero, i.size, i.bytes)) = some (some zeroSl, 6, 72)) (w : World) (B : Nat) (v : Value) (ls : List SV) (h : SMine T w B v ls) (a : Option Addr) (c : Nat) (ty : TypeId) :
    (Builtin.append_ #[ts, ts] ty #[v, .slice a 0 c]).run Try.prog w = .ok v w := by
  obtain ⟨i0, hi, hz0, hz1, hz2⟩ := info_parts hT
  rcases h.2 with ⟨rfl, _⟩ | ⟨g, cap, cur, rfl, _, _, hnc, _⟩
  · cases a <;> simp [Builtin.append_, run_underlying ht, sizeOf, typeInfo, hi, Builtin.lenOf, Builtin.firstCells, loadCells, loadCellsFrom]
  · cases a <;> simp [Builtin.append_, run_underlying ht, sizeOf, typeInfo, hi, Builtin.lenOf, Builtin.firstCells, hnc, storeCells, loadCells, loadCellsFrom]
/-- One append of a row onto one's own. -/
theorem sappend {T ts : TypeId} (ht : Try.prog.underlying ts = some (.slice T)) (hT : (Try.prog.info? T).map (fun i => (i.zero, i.size, i.bytes)) = some (some zeroSl, 6, 72)) {w : World} {B : Nat} {v u : Value} {xs ys : List SV} (h : SMine T w B v xs) (hr : SRead w u ys) (hone : ∀ p ∈ ys, ∃ la n c, p.2 = .slice la n c) (hz : (xs.length + ys.length) * 72 ≤ 140737488355328) (hB : B ≤ w.heap.size) (ty : TypeId) :
    ∃ v' w', (Builtin.append_ #[ts, ts] ty #[v, u]).run Try.prog w = .ok v' w' ∧ SMine T w' B v' (xs ++ ys) ∧ Below B w w' := by
  obtain ⟨i0, hi, hz0, hz1, hz2⟩ := info_parts hT
  rcases hr with ⟨rfl, ad, cap, rfl⟩ | ⟨g, o, cap, rfl, hcell⟩
  · exact ⟨v, w, sappend_empty ht hT w B v xs h ad cap ty, by rw [List.append_nil]; exact h, Below.refl _ _⟩
  · obtain ⟨v', w', hr, h2, h3, _⟩ := run_append_own_at (P := Try.prog) w B ts ty T i0 zeroSl 6 72 ht hi hz0 hz1 hz2 rfl (by decide) v xs.length (xs.flatMap cellsP) h ⟨g, o, none⟩ ys.length cap (ys.flatMap cellsP) (fm6_len ys) hcell
      (fun u hu => by
        obtain ⟨p, hp, hu⟩ := List.mem_flatMap.1 hu
        obtain ⟨la, n, c, hl⟩ := hone p hp
        exact cells_one p hl u hu) (by unfold maxLen; omega) hz hB
    refine ⟨v', w', hr, ?_, (Below.refl _ _).grown h3 hB (fun k hk => (World.ownsRow.lt h k hk).1)⟩
    unfold SMine
    rw [List.length_append, List.flatMap_append]
    exact h2
end Go.Proofs.Ytbefnophkaepmaa.Pack
