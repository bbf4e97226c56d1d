/- What slices.Grow and slices.Concat answer of caveats: a new row, of one's own; of memory that was there nothing turns. -/
import Derived.Test.YthopegokjbibmaaDoorMRow
import Derived.Lib.AppendZerosOnto
import Derived.Lib.SlFresh
namespace Go.Proofs.YthopegokjbibmaaDoor.Mac
open Go.RowKit Go.Proofs.YthopegokjbibmaaDoor.Sha
open Go.Proofs.YthopegokjbibmaaDoor.Boxes (keep)

theorem infoC : (Tryd.prog.info? 27).map (fun i => (i.zero, i.size, i.bytes)) = some (some (.agg #[.int .i64 0, .int .u64 0]), 2, 16) := by kernel_rfl
/-- A row of caveats of one's own. -/
def Mine (w : World) (B : Nat) (v : Value) (ls : List Cav) : Prop := w.ownsRow B 27 2 v ls.length (ls.flatMap enc)
theorem fm_get : ∀ (ls : List Cav) (j : Nat) (x : Cav), ls[j]? = some x → (ls.flatMap enc)[j * 2]? = some (.int .i64 x.1) ∧ (ls.flatMap enc)[j * 2 + 1]? = some (.int .u64 (x.2 : Int))
  | [], j, x, h => by simp at h
  | a :: r, 0, x, h => by simp at h; subst h; simp [enc]
  | a :: r, j + 1, x, h => by
    have := fm_get r j x (by simpa using h)
    rw [List.flatMap_cons, show (j + 1) * 2 = j * 2 + 2 by omega, show j * 2 + 2 + 1 = (j * 2 + 1) + 2 by omega]
    exact this
theorem fm_len (ls : List Cav) : (ls.flatMap enc).length = ls.length * 2 := by
  induction ls with
  | nil => rfl
  | cons a r ih => rw [List.flatMap_cons, List.length_append, ih, List.length_cons]; simp [enc]; omega
theorem fm_at : ∀ (ls : List Cav) (j : Nat) (u : Value), (ls.flatMap enc)[j]? = some u → ∃ i x, ls[i]? = some x ∧ ((j = i * 2 ∧ u = .int .i64 x.1) ∨ (j = i * 2 + 1 ∧ u = .int .u64 (x.2 : Int)))
  | [], j, u, h => by simp at h
  | a :: r, 0, u, h => by simp [enc] at h; exact ⟨0, a, rfl, .inl ⟨rfl, h.symm⟩⟩
  | a :: r, 1, u, h => by simp [enc] at h; exact ⟨0, a, rfl, .inr ⟨rfl, h.symm⟩⟩
  | a :: r, j + 2, u, h => by
    obtain ⟨i, x, h1, h2⟩ := fm_at r j u (by simpa [enc] using h)
    refine ⟨i + 1, x, by simpa using h1, ?_⟩
    rcases h2 with ⟨h2, h3⟩ | ⟨h2, h3⟩
    · exact .inl ⟨by omega, h3⟩
    · exact .inr ⟨by omega, h3⟩
theorem fm_one (ls : List Cav) : ∀ u ∈ ls.flatMap enc, u.oneCell' = true := by
  intro u hu
  obtain ⟨x, _, hx⟩ := List.mem_flatMap.1 hu
  simp [enc] at hx
  rcases hx with rfl | rfl <;> rfl
theorem Cells.news {w : World} {g o : Nat} {ls : List Cav} (h : Cells w g o ls) : ∀ j u, (ls.flatMap enc)[j]? = some u → w.cell? ((⟨g, o, none⟩ : Addr).add j) = some u := fun j u hj => by
  rw [Addr.add_lit]
  obtain ⟨i, x, hx, ⟨rfl, rfl⟩ | ⟨rfl, rfl⟩⟩ := fm_at ls j u hj
  · exact (h i x hx).2.1
  · exact (h i x hx).2.2
theorem Mine.row {B : Nat} {w : World} {v : Value} {ls : List Cav} (h : Mine w B v ls) (hf : ∀ c ∈ ls, Fair c) : Row w v ls := by
  have hc := fun g hg => World.ownsRow.cells h (g := g) hg
  rcases h.2 with ⟨rfl, h0⟩ | ⟨g, cap, cur, rfl, hB, hg, hcap, hm, hsz, htake⟩
  · exact .inl ⟨List.eq_nil_of_length_eq_zero h0, _, _, rfl, Nat.zero_le _⟩
  · by_cases hl : ls = []
    · subst hl; exact .inl ⟨rfl, _, _, rfl, hm⟩
    · refine .inr ⟨hl, g, 0, cap, rfl, (Array.getElem?_eq_some_iff.1 hg).1, hcap, hm, fun j x hj => ?_⟩
      obtain ⟨h0, h1⟩ := fm_get ls j x hj
      have e0 := hc g rfl _ _ h0
      have e1 := hc g rfl _ _ h1
      rw [Addr.add_lit] at e0 e1
      exact ⟨hf x (List.mem_of_getElem? hj), e0, e1⟩
/-- An append of nothing. -/
theorem append_empty (w : World) (B : Nat) (v : Value) (ls : List Cav) (h : Mine w B v ls) (a : Option Addr) (c : Nat) (ty : TypeId) :
    (Builtin.append_ #[22, 22] ty #[v, .slice a 0 c]).run Tryd.prog w = .ok v w := by
  obtain ⟨i0, hi, hz0, hz1, hz2⟩ := info_parts infoC
  have ht := Tryd.underlying22
  rcases h.2 with ⟨rfl, _⟩ | ⟨g, cap, cur, rfl, _, _, hnc, _⟩
  · cases a <;> simp [Builtin.append_, run_underlying ht, sizeOf, typeInfo, hi, Builtin.lenOf, Builtin.firstCells, loadCells, loadCellsFrom]
  · cases a <;> simp [Builtin.append_, run_underlying ht, sizeOf, typeInfo, hi, Builtin.lenOf, Builtin.firstCells, hnc, storeCells, loadCells, loadCellsFrom]

set_option maxHeartbeats 1000000 in
set_option maxRecDepth 100000 in
theorem grow_any (n : Nat) (hn : n ≤ 1000000) (w : World) :
    Calls Tryd.prog 61 #[.slice none 0 0, .int .i64 (n : Int)] w fun e w' => (∃ v, e = .returned v ∧ Mine w' w.heap.size v []) ∧ Below w.heap.size w w' := by
  have h0 : ¬ (n : Int) < 0 := by omega
  by_cases hz : n = 0
  · subst hz
    go_enter Tryd.func61, Tryd.ntmps61
    go_wp2
    go_ret
    exact ⟨⟨_, rfl, World.ownsRow_nil _ _ _ _⟩, Below.refl _ _⟩
  · have hp : (0 : Int) < (n : Int) := by omega
    obtain ⟨i0, hi, hz0, hz1, hz2⟩ := info_parts infoC
    have hbig : n * i0.bytes ≤ 140737488355328 := by rw [hz2]; omega
    have hrz : ∀ ty, (Builtin.append_ #[22, 3] ty #[.slice none 0 0, .int .i64 (n : Int)]).run Tryd.prog w =
        .ok (.slice (some ⟨w.heap.size, 0, none⟩) n (grownCap w n 0 27)) (w.drew.alloc (.cells (#[] ++ Builtin.zeroCells (Value.cells (.agg #[.int .i64 0, .int .u64 0])) n ++ Builtin.zeroCells (Value.cells (.agg #[.int .i64 0, .int .u64 0])) (grownCap w n 0 27 - n)) 27)) := fun ty => by
      have h := Lib.run_append_grow_zeros (P := Tryd.prog) w 22 3 ty 27 i0 (.agg #[.int .i64 0, .int .u64 0]) .i64 .i64 Tryd.underlying22 Tryd.underlying3 hi hz0 none 0 0 [] (run_firstCells_none w.drew i0.size 0 0 0) n (by omega) (by rw [hz1]; decide) (by omega) (by omega) (by omega)
        (by rw [Nat.zero_add]; exact growslice_fits (by omega) hbig)
      rw [Nat.zero_add] at h
      exact h
    have hGn : n ≤ grownCap w n 0 27 := grownCap_ge w _ _ _
    have hG63 := grownCap_le_maxLen w n 0 27 (by unfold maxLen; omega)
    obtain ⟨G, hG⟩ : ∃ G, G = grownCap w n 0 27 := ⟨_, rfl⟩
    rw [← hG] at hrz hGn hG63
    have HS : Hid ((#[] ++ Builtin.zeroCells (Value.cells (.agg #[.int .i64 0, .int .u64 0])) n ++ Builtin.zeroCells (Value.cells (.agg #[.int .i64 0, .int .u64 0])) (G - n)).size = G * 2) := Lib.hid (by
      rw [Array.size_append, Array.size_append, size_zeroCells, size_zeroCells]
      show 0 + n * 2 + (G - n) * 2 = G * 2
      omega)
    generalize (#[] ++ Builtin.zeroCells (Value.cells (.agg #[.int .i64 0, .int .u64 0])) n ++ Builtin.zeroCells (Value.cells (.agg #[.int .i64 0, .int .u64 0])) (G - n)) = Z at hrz HS
    have HO : Hid (Mine (w.drew.alloc (.cells Z 27)) w.heap.size (.slice (some ⟨w.heap.size, 0, none⟩) 0 G) []) := Lib.hid (World.ownsRow_made (base := w.heap.size) (e := 27) (size := 2) w.drew Z G (Nat.le_refl _) hG63 HS.out)
    have hb : Below w.heap.size w (w.drew.alloc (.cells Z 27)) := (Below.refl _ _).drew.alloc (Nat.le_refl _) _
    unfold maxLen at hG63
    clear hG HS hbig hz
    go_enter Tryd.func61, Tryd.ntmps61
    go_wp2_with (at_builtin; refine Lib.wpList_append_run _ rfl _ _ _ _ rfl _ _ rfl rfl _ _ (hrz _) ?_)
    all_goals (go_ret; exact ⟨⟨_, rfl, HO.out⟩, hb⟩)

def sizeTo (a b k : Nat) : Nat := if k = 0 then 0 else if k = 1 then a else a + b
def rowTo (a b : List Cav) (k : Nat) : List Cav := if k = 0 then [] else if k = 1 then a else a ++ b
theorem Mine.more {w w' : World} {B : Nat} {v : Value} {ls : List Cav} (h : Mine w B v ls) (hb : Below w.heap.size w w') : Mine w' B v ls := by
  refine ⟨h.1, ?_⟩
  rcases h.2 with hn | ⟨g, cap, cur, hv, hB, hg, rest⟩
  · exact .inl hn
  · exact .inr ⟨g, cap, cur, hv, hB, (hb.block g (Array.getElem?_eq_some_iff.1 hg).1).trans hg, rest⟩
theorem Mine.set {w : World} {B T i : Nat} {v u : Value} {ls : List Cav} (h : Mine w B v ls) (hT : T < B) : Mine (w.setCell ⟨T, i, none⟩ u) B v ls := by
  refine ⟨h.1, ?_⟩
  rcases h.2 with hn | ⟨g, cap, cur, hv, hB, hg, rest⟩
  · exact .inl hn
  · exact .inr ⟨g, cap, cur, hv, hB, (Below.heap_setCell w _ u g (by simp only; omega)).trans hg, rest⟩
theorem Mine.base {w : World} {B B' : Nat} {v : Value} {ls : List Cav} (h : Mine w B v ls) (hB : B' ≤ B) : Mine w B' v ls := by
  refine ⟨h.1, ?_⟩
  rcases h.2 with hn | ⟨g, cap, cur, hv, hg1, rest⟩
  · exact .inl hn
  · exact .inr ⟨g, cap, cur, hv, by omega, rest⟩
theorem Mine.slice {w : World} {B : Nat} {v : Value} {ls : List Cav} (h : Mine w B v ls) : ∃ a cap, v = .slice a ls.length cap ∧ ls.length ≤ cap ∧ cap ≤ maxLen := by
  rcases h.2 with ⟨rfl, h0⟩ | ⟨g, cap, cur, rfl, hB, hg, hcap, hm, _⟩
  · exact ⟨_, _, by rw [h0], by omega, Nat.zero_le _⟩
  · exact ⟨_, _, rfl, hcap, hm⟩
theorem Mine.glue {w : World} {B n : Nat} {v : Value} {a b : List Cav} (h : w.ownsRow B 27 2 v n (a.flatMap enc ++ b.flatMap enc)) (hn : n = a.length + b.length) : Mine w B v (a ++ b) := by
  subst hn
  unfold Mine
  rw [List.length_append, List.flatMap_append]
  exact h
/-- One append of a row onto one's own. -/
theorem append_row {w : World} {B : Nat} {v u : Value} {a b : List Cav} (h : Mine w B v a) (hr : Row w u b) (hz : a.length + b.length ≤ 1000000) (hB : B ≤ w.heap.size) (ty : TypeId) :
    ∃ v' w', (Builtin.append_ #[22, 22] ty #[v, u]).run Tryd.prog w = .ok v' w' ∧ Mine w' B v' (a ++ b) ∧ Below B w w' := by
  obtain ⟨i0, hi, hz0, hz1, hz2⟩ := info_parts infoC
  rcases hr with ⟨rfl, ad, cap, rfl, _⟩ | ⟨_, g, o, cap, rfl, hg, hcap, hm, hcell⟩
  · exact ⟨v, w, append_empty w B v a h ad cap ty, by rw [List.append_nil]; exact h, Below.refl _ _⟩
  · obtain ⟨v', w', hr, h2, h3, _⟩ := run_append_own_at (P := Tryd.prog) w B 22 ty 27 i0 (.agg #[.int .i64 0, .int .u64 0]) 2 16 Tryd.underlying22 hi hz0 hz1 hz2 rfl (by decide) v a.length (a.flatMap enc) h ⟨g, o, none⟩ b.length cap (b.flatMap enc) (fm_len b) hcell.news (fm_one b) (by unfold maxLen; omega) (by omega) hB
    exact ⟨v', w', hr, Mine.glue h2 rfl, (Below.refl _ _).grown h3 hB (fun k hk => (World.ownsRow.lt h k hk).1)⟩

set_option maxHeartbeats 2000000 in
set_option maxRecDepth 100000 in
theorem concat_any (hd c : Nat) (v1 v2 : Value) (l1 l2 : List Cav) (T : TypeId) (w : World) (hh : w.heap[hd]? = some (.cells #[v1, v2] T)) (hr1 : Row w v1 l1) (hr2 : Row w v2 l2) (hz : l1.length + l2.length ≤ 1000000) :
    Calls Tryd.prog 48 #[.slice (some ⟨hd, 0, none⟩) 2 c] w fun e w' => (∃ v, e = .returned v ∧ Mine w' w.heap.size v (l1 ++ l2)) ∧ Below w.heap.size w w' := by
  obtain ⟨a1, cap1, e1, _, _⟩ := hr1.slice
  obtain ⟨a2, cap2, e2, _, _⟩ := hr2.slice
  obtain ⟨n1, hn1⟩ : ∃ n, l1.length = n := ⟨_, rfl⟩
  obtain ⟨n2, hn2⟩ : ∃ n, l2.length = n := ⟨_, rfl⟩
  have HR1 := Lib.hid hr1
  have HR2 := Lib.hid hr2
  have HN1 := Lib.hid hn1
  have HN2 := Lib.hid hn2
  rw [e1] at hh HR1
  rw [e2] at hh HR2
  rw [hn1] at hh HR1 hz
  rw [hn2] at hh HR2 hz
  obtain ⟨k0, k1, _⟩ := cells2 hh
  have hlt := (Array.getElem?_eq_some_iff.1 hh).1
  have hg0 := grow_any (n1 + n2) hz w
  rw [Int.natCast_add] at hg0
  have HG := Lib.hid hg0
  clear hg0
  clear hr1 hr2 e1 e2 hn1 hn2 hh
  go_enter Tryd.func48, Tryd.ntmps48
  go_wp2
  go_loopw [3, 11] (fun s i wr => ∃ k : Nat, k ≤ 2 ∧ i = .int .i64 k ∧ s = .int .i64 (sizeTo n1 n2 k : Nat) ∧ w = wr) (fun _ i _ => 2 - (intOf i).toNat)
  case atStart => exact ⟨0, by omega, rfl, rfl, rfl⟩
  case round =>
    obtain ⟨k, hk, rfl, rfl, rfl⟩ := hrel
    obtain rfl | rfl | rfl : k = 0 ∨ k = 1 ∨ k = 2 := by omega
    · rw [show sizeTo n1 n2 0 = 0 from rfl]
      go_wp2
      go_roundw
      case rel => exact ⟨1, by omega, by go_num, by rw [show sizeTo n1 n2 1 = n1 from rfl], trivial⟩
      case measure => simp [intOf]
    · rw [show sizeTo n1 n2 1 = n1 from rfl]
      go_wp2
      go_roundw
      case rel => exact ⟨2, by omega, by go_num, by rw [show sizeTo n1 n2 2 = n1 + n2 from rfl]; go_num, trivial⟩
      case measure => simp [intOf]
    · rw [show sizeTo n1 n2 2 = n1 + n2 from rfl]
      go_wp2_with fail
      with_reducible refine HG.out.mono ?_
      rintro e w1 ⟨⟨v, rfl, hown⟩, b1⟩
      have HO := Lib.hid hown
      clear hown
      go_wp2
      go_loopw [6, 27] (fun s i wr => ∃ k : Nat, k ≤ 2 ∧ i = .int .i64 k ∧ Mine wr w.heap.size s (rowTo l1 l2 k) ∧ Below w.heap.size w wr) (fun _ i _ => 2 - (intOf i).toNat)
      case atStart => exact ⟨0, by omega, rfl, HO.out, b1⟩
      case round =>
        obtain ⟨k, hk, rfl, hown, hb⟩ := hrel
        have i0 := (hb.cell (p := ⟨hd, 0, none⟩) hlt).trans k0
        have i1 := (hb.cell (p := ⟨hd, 1, none⟩) hlt).trans k1
        clear HO b1 HG
        obtain rfl | rfl | rfl : k = 0 ∨ k = 1 ∨ k = 2 := by omega
        · obtain ⟨v', w', hrun, hown', hb'⟩ := append_row hown (HR1.out.below hb) (by have := HN1.out; show ([] : List Cav).length + _ ≤ _; simp; omega) hb.size 22
          have HO := Lib.hid hown'
          clear hown hown'
          go_wp2_with (at_builtin; refine Lib.wpList_append_run_sl _ rfl _ _ _ rfl _ _ rfl rfl hrun ?_)
          go_roundw
          case rel => exact ⟨1, by omega, by go_num, HO.out, hb.trans hb'⟩
          case measure => simp [intOf]
        · obtain ⟨v', w', hrun, hown', hb'⟩ := append_row hown (HR2.out.below hb) (by have := HN1.out; have := HN2.out; show l1.length + _ ≤ _; omega) hb.size 22
          have HO := Lib.hid hown'
          clear hown hown'
          go_wp2_with (at_builtin; refine Lib.wpList_append_run_sl _ rfl _ _ _ rfl _ _ rfl rfl hrun ?_)
          go_roundw
          case rel => exact ⟨2, by omega, by go_num, HO.out, hb.trans hb'⟩
          case measure => simp [intOf]
        · have HO : Hid (Mine wr w.heap.size u6 (l1 ++ l2)) := Lib.hid hown
          clear hown
          go_wp2
          go_ret
          exact ⟨⟨_, rfl, HO.out⟩, hb⟩
end Go.Proofs.YthopegokjbibmaaDoor.Mac
