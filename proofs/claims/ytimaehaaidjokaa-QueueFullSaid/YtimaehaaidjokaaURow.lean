/- Queues in memory (chapter 14): a slice of entries of a number and a priority, a row of one's own of them, what an append of one leaves; of two types of entries alike. -/
import Derived.Test.YtimaehaaidjokaaUMath
import Derived.Test.YtimaehaaidjokaaProg
import Derived.WalkKit
import Derived.WalkSpells
import Derived.WalkLawsBesides
import Derived.ProofKit
import Derived.Lib.Hide
import Derived.Lib.Walk
import Derived.Maps.AppendAt
import Derived.Shelf.SlicesQ.Load
namespace Go.Proofs.Ytimaehaaidjokaa.Queue
open Go.RowKit

/-- Its number is of 64 bits, its priority an int. -/
def Fair (x : E) : Prop := x.1 ≤ 18446744073709551615 ∧ -9223372036854775808 ≤ x.2 ∧ x.2 ≤ 9223372036854775807
def val (x : E) : Value := .agg #[.int .u64 (x.1 : Int), .int .i64 x.2]
def enc (x : E) : List Value := [.int .u64 (x.1 : Int), .int .i64 x.2]
/-- The cells from a place on hold these entries. -/
def Cells (w : World) (g o : Nat) (ls : List E) : Prop :=
  ∀ j x, ls[j]? = some x → Fair x ∧ w.cell? ⟨g, o + j * 2, none⟩ = some (.int .u64 (x.1 : Int)) ∧ w.cell? ⟨g, o + j * 2 + 1, none⟩ = some (.int .i64 x.2)
/-- A slice of these entries. -/
def Row (w : World) (v : Value) (ls : List E) : Prop :=
  (ls = [] ∧ ∃ a cap, v = .slice a 0 cap ∧ cap ≤ maxLen) ∨ (ls ≠ [] ∧ ∃ g o cap, v = .slice (some ⟨g, o, none⟩) ls.length cap ∧ g < w.heap.size ∧ ls.length ≤ cap ∧ cap ≤ maxLen ∧ Cells w g o ls)
theorem Cells.below {w w' : World} {g o : Nat} {ls : List E} (h : Cells w g o ls) (hg : g < w.heap.size) (hb : Below w.heap.size w w') : Cells w' g o ls := fun j x hj => by
  rw [hb.cell (p := ⟨g, o + j * 2, none⟩) hg, hb.cell (p := ⟨g, o + j * 2 + 1, none⟩) hg]
  exact h j x hj
theorem Row.below {w w' : World} {v : Value} {ls : List E} (h : Row w v ls) (hb : Below w.heap.size w w') : Row w' v ls := by
  rcases h with h | ⟨h0, g, o, cap, h1, h2, h3, h4, h5⟩
  · exact .inl h
  · exact .inr ⟨h0, g, o, cap, h1, by have := hb.size; omega, h3, h4, h5.below h2 hb⟩
theorem Row.slice {w : World} {v : Value} {ls : List E} (h : Row w v ls) : ∃ a cap, v = .slice a ls.length cap ∧ ls.length ≤ cap ∧ cap ≤ maxLen := by
  rcases h with ⟨rfl, a, cap, rfl, hm⟩ | ⟨_, g, o, cap, rfl, _, hc, hm, _⟩
  · exact ⟨_, _, rfl, Nat.zero_le _, hm⟩
  · exact ⟨_, _, rfl, hc, hm⟩
theorem Row.cells {w : World} {a : Option Addr} {cap k n : Nat} {ls : List E} (h : Row w (.slice a n cap) ls) (hk : k < ls.length) : ∃ g o, a = some ⟨g, o, none⟩ ∧ g < w.heap.size ∧ Cells w g o ls := by
  rcases h with ⟨rfl, _⟩ | ⟨_, g, o, cap', hsl, hg, _, _, hcell⟩
  · simp at hk
  · injection hsl with h1 _ _
    exact ⟨g, o, h1, hg, hcell⟩
theorem Row.nil (w : World) : Row w (.slice none 0 0) [] := .inl ⟨rfl, _, _, rfl, Nat.zero_le _⟩
theorem Row.fair {w : World} {v : Value} {ls : List E} (h : Row w v ls) : ∀ c ∈ ls, Fair c := fun c hc => by
  rcases h with ⟨rfl, _⟩ | ⟨_, g, o, cap, _, _, _, _, h5⟩
  · simp at hc
  · obtain ⟨i, hi⟩ := List.mem_iff_getElem?.1 hc
    exact (h5 i c hi).1
theorem Row.len {w : World} {v : Value} {ls : List E} (h : Row w v ls) : ls.length ≤ 9223372036854775807 := by
  obtain ⟨_, cap, _, h1, h2⟩ := h.slice
  unfold maxLen at h2
  omega
/-- What a round of a loop finds there. -/
theorem Row.at {w : World} {a : Option Addr} {cap n k : Nat} {ls : List E} {x : E} (h : Row w (.slice a n cap) ls) (hx : ls[k]? = some x) :
    ∃ g o, a = some ⟨g, o, none⟩ ∧ g < w.heap.size ∧ w.cell? ⟨g, o + k * 2, none⟩ = some (.int .u64 (x.1 : Int)) ∧ w.cell? ⟨g, o + k * 2 + 1, none⟩ = some (.int .i64 x.2) := by
  obtain ⟨g, o, ha, hg, hc⟩ := h.cells (List.getElem?_eq_some_iff.1 hx).1
  exact ⟨g, o, ha, hg, (hc k x hx).2⟩

/-- A row of one's own, of entries of that type. -/
def Mine (T : TypeId) (w : World) (B : Nat) (v : Value) (ls : List E) : Prop := w.ownsRow B T 2 v ls.length (ls.flatMap enc)
theorem fm_get : ∀ (ls : List E) (j : Nat) (x : E), ls[j]? = some x → (ls.flatMap enc)[j * 2]? = some (.int .u64 (x.1 : Int)) ∧ (ls.flatMap enc)[j * 2 + 1]? = some (.int .i64 x.2)
  | [], j, x, h => by simp at h
  | a :: r, 0, x, h => by simp at h; subst h; simp [enc]
  | a :: r, j + 1, x, h => by
    have := fm_get r j x (by simpa using h)
    rw [List.flatMap_cons, show (j + 1) * 2 = j * 2 + 2 by omega, show j * 2 + 2 + 1 = (j * 2 + 1) + 2 by omega]
    exact this
theorem fm_len (ls : List E) : (ls.flatMap enc).length = ls.length * 2 := by
  induction ls with
  | nil => rfl
  | cons a r ih => rw [List.flatMap_cons, List.length_append, ih, List.length_cons]; simp [enc]; omega
theorem fm_at : ∀ (ls : List E) (j : Nat) (u : Value), (ls.flatMap enc)[j]? = some u → ∃ i x, ls[i]? = some x ∧ ((j = i * 2 ∧ u = .int .u64 (x.1 : Int)) ∨ (j = i * 2 + 1 ∧ u = .int .i64 x.2))
  | [], j, u, h => by simp at h
  | a :: r, 0, u, h => by simp [enc] at h; exact ⟨0, a, rfl, .inl ⟨rfl, h.symm⟩⟩
  | a :: r, 1, u, h => by simp [enc] at h; exact ⟨0, a, rfl, .inr ⟨rfl, h.symm⟩⟩
  | a :: r, j + 2, u, h => by
    obtain ⟨i, x, h1, h2⟩ := fm_at r j u (by simpa [enc] using h)
    refine ⟨i + 1, x, by simpa using h1, ?_⟩
    rcases h2 with ⟨h2, h3⟩ | ⟨h2, h3⟩
    · exact .inl ⟨by omega, h3⟩
    · exact .inr ⟨by omega, h3⟩
theorem fm_one (ls : List E) : ∀ u ∈ ls.flatMap enc, u.oneCell' = true := by
  intro u hu
  obtain ⟨x, _, hx⟩ := List.mem_flatMap.1 hu
  simp [enc] at hx
  rcases hx with rfl | rfl <;> rfl
theorem Cells.news {w : World} {g o : Nat} {ls : List E} (h : Cells w g o ls) : ∀ j u, (ls.flatMap enc)[j]? = some u → w.cell? ((⟨g, o, none⟩ : Addr).add j) = some u := fun j u hj => by
  rw [Addr.add_lit]
  obtain ⟨i, x, hx, ⟨rfl, rfl⟩ | ⟨rfl, rfl⟩⟩ := fm_at ls j u hj
  · exact (h i x hx).2.1
  · exact (h i x hx).2.2
theorem Mine.row {T : TypeId} {B : Nat} {w : World} {v : Value} {ls : List E} (h : Mine T w B v ls) (hf : ∀ c ∈ ls, Fair c) : Row w v ls := by
  have hc := fun g hg => World.ownsRow.cells h (g := g) hg
  rcases h.2 with ⟨rfl, h0⟩ | ⟨g, cap, cur, rfl, hB, hg, hcap, hm, hsz, htake⟩
  · exact .inl ⟨List.eq_nil_of_length_eq_zero h0, _, _, rfl, Nat.zero_le _⟩
  · by_cases hl : ls = []
    · subst hl; exact .inl ⟨rfl, _, _, rfl, hm⟩
    · refine .inr ⟨hl, g, 0, cap, rfl, (Array.getElem?_eq_some_iff.1 hg).1, hcap, hm, fun j x hj => ?_⟩
      obtain ⟨h0, h1⟩ := fm_get ls j x hj
      have e0 := hc g rfl _ _ h0
      have e1 := hc g rfl _ _ h1
      rw [Addr.add_lit] at e0 e1
      exact ⟨hf x (List.mem_of_getElem? hj), e0, e1⟩
theorem Mine.nil (T : TypeId) (w : World) (B : Nat) : Mine T w B (.slice none 0 0) [] := World.ownsRow_nil _ _ _ _
theorem Mine.more {T : TypeId} {w w' : World} {B : Nat} {v : Value} {ls : List E} (h : Mine T w B v ls) (hb : Below w.heap.size w w') : Mine T w' B v ls := by
  refine ⟨h.1, ?_⟩
  rcases h.2 with hn | ⟨g, cap, cur, hv, hB, hg, rest⟩
  · exact .inl hn
  · exact .inr ⟨g, cap, cur, hv, hB, (hb.block g (Array.getElem?_eq_some_iff.1 hg).1).trans hg, rest⟩
theorem Mine.set {T : TypeId} {w : World} {B b i : Nat} {v u : Value} {ls : List E} (h : Mine T w B v ls) (hb : b < B) : Mine T (w.setCell ⟨b, i, none⟩ u) B v ls := by
  refine ⟨h.1, ?_⟩
  rcases h.2 with hn | ⟨g, cap, cur, hv, hB, hg, rest⟩
  · exact .inl hn
  · exact .inr ⟨g, cap, cur, hv, hB, (Below.heap_setCell w _ u g (by simp only; omega)).trans hg, rest⟩
theorem Mine.base {T : TypeId} {w : World} {B B' : Nat} {v : Value} {ls : List E} (h : Mine T w B v ls) (hB : B' ≤ B) : Mine T w B' v ls := by
  refine ⟨h.1, ?_⟩
  rcases h.2 with hn | ⟨g, cap, cur, hv, hg1, rest⟩
  · exact .inl hn
  · exact .inr ⟨g, cap, cur, hv, by omega, rest⟩
theorem Mine.slice {T : TypeId} {w : World} {B : Nat} {v : Value} {ls : List E} (h : Mine T w B v ls) : ∃ a cap, v = .slice a ls.length cap ∧ ls.length ≤ cap ∧ cap ≤ maxLen := by
  rcases h.2 with ⟨rfl, h0⟩ | ⟨g, cap, cur, rfl, hB, hg, hcap, hm, _⟩
  · exact ⟨_, _, by rw [h0], by omega, Nat.zero_le _⟩
  · exact ⟨_, _, rfl, hcap, hm⟩
theorem Mine.glue {T : TypeId} {w : World} {B n : Nat} {v : Value} {a b : List E} (h : w.ownsRow B T 2 v n (a.flatMap enc ++ b.flatMap enc)) (hn : n = a.length + b.length) : Mine T w B v (a ++ b) := by
  subst hn
  unfold Mine
  rw [List.length_append, List.flatMap_append]
  exact h
theorem Mine.snoc {T : TypeId} {w : World} {B n : Nat} {v : Value} {ls : List E} {x : E} (h : w.ownsRow B T 2 v (n + 1) (ls.flatMap enc ++ [.int .u64 (x.1 : Int), .int .i64 x.2])) (hn : n = ls.length) : Mine T w B v (ls ++ [x]) := by
  subst hn
  unfold Mine
  rw [List.length_append, List.flatMap_append]
  simpa [enc] using h
/-- An array of one entry, just laid: what an append of it takes. -/
theorem new_two (T : TypeId) (w : World) (x y : Value) : ∀ j u, [x, y][j]? = some u → (w.alloc (.cells #[x, y] T)).cell? ((⟨w.heap.size, 0, none⟩ : Addr).add j) = some u := by
  intro j u hj
  have h : (w.alloc (.cells #[x, y] T)).heap[w.heap.size]? = some (.cells #[x, y] T) := heap_alloc_new _ _
  rw [Addr.add_lit]
  match j with
  | 0 => simp at hj; subst hj; simp only [World.cell?, h]; rfl
  | 1 => simp at hj; subst hj; simp only [World.cell?, h]; rfl
  | (n + 2) => simp at hj
def zeroE : Value := .agg #[.int .u64 0, .int .i64 0]
theorem infoE : (Try.prog.info? 25).map (fun i => (i.zero, i.size, i.bytes)) = some (some zeroE, 2, 16) := by kernel_rfl
theorem infoR : (Try.prog.info? 34).map (fun i => (i.zero, i.size, i.bytes)) = some (some zeroE, 2, 16) := by kernel_rfl

/-- An append of nothing. -/
theorem append_empty {T ts : TypeId} (ht : Try.prog.underlying ts = some (.slice T)) (hT : (Try.prog.info? T).map (fun i => (i.zero, i.size, i.bytes)) = some (some zeroE, 2, 16)) (w : World) (B : Nat) (v : Value) (ls : List E) (h : Mine T w B v ls) (a : Option Addr) (c : Nat) (ty : TypeId) :
    (Builtin.append_ #[ts, ts] ty #[v, .slice a 0 c]).run Try.prog w = .ok v w := by
  obtain ⟨i0, hi, hz0, hz1, hz2⟩ := info_parts hT
  rcases h.2 with ⟨rfl, _⟩ | ⟨g, cap, cur, rfl, _, _, hnc, _⟩
  · cases a <;> simp [Builtin.append_, run_underlying ht, sizeOf, typeInfo, hi, Builtin.lenOf, Builtin.firstCells, loadCells, loadCellsFrom]
  · cases a <;> simp [Builtin.append_, run_underlying ht, sizeOf, typeInfo, hi, Builtin.lenOf, Builtin.firstCells, hnc, storeCells, loadCells, loadCellsFrom]
/-- One append of a row onto one's own. -/
theorem append_row {T ts : TypeId} (ht : Try.prog.underlying ts = some (.slice T)) (hT : (Try.prog.info? T).map (fun i => (i.zero, i.size, i.bytes)) = some (some zeroE, 2, 16)) {w : World} {B : Nat} {v u : Value} {a b : List E} (h : Mine T w B v a) (hr : Row w u b) (hz : a.length + b.length ≤ 8796093022208) (hB : B ≤ w.heap.size) (ty : TypeId) :
    ∃ v' w', (Builtin.append_ #[ts, ts] ty #[v, u]).run Try.prog w = .ok v' w' ∧ Mine T w' B v' (a ++ b) ∧ Below B w w' := by
  obtain ⟨i0, hi, hz0, hz1, hz2⟩ := info_parts hT
  rcases hr with ⟨rfl, ad, cap, rfl, _⟩ | ⟨_, g, o, cap, rfl, hg, hcap, hm, hcell⟩
  · exact ⟨v, w, append_empty ht hT w B v a h ad cap ty, by rw [List.append_nil]; exact h, Below.refl _ _⟩
  · obtain ⟨v', w', hr, h2, h3, _⟩ := run_append_own_at (P := Try.prog) w B ts ty T i0 zeroE 2 16 ht hi hz0 hz1 hz2 rfl (by decide) v a.length (a.flatMap enc) h ⟨g, o, none⟩ b.length cap (b.flatMap enc) (fm_len b) hcell.news (fm_one b) (by unfold maxLen; omega) (by omega) hB
    exact ⟨v', w', hr, Mine.glue h2 rfl, (Below.refl _ _).grown h3 hB (fun k hk => (World.ownsRow.lt h k hk).1)⟩
end Go.Proofs.Ytimaehaaidjokaa.Queue
