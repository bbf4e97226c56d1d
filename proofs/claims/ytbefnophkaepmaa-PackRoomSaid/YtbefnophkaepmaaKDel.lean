/- What the library's IndexFunc and DeleteFunc do with a row of slots of one's own and the program's question (chapter 13): those that match are kept, in their order; of memory that was there nothing turns. -/
import Derived.Test.YtbefnophkaepmaaKTight
namespace Go.Proofs.Ytbefnophkaepmaa.Pack
open Go.RowKit Go.Proofs.Ytbefnophkaepmaa.Label Go.Proofs.Ytbefnophkaepmaa.Sel Go.Proofs.Ytbefnophkaepmaa.Vec Go.Proofs.Ytbefnophkaepmaa.Texts

/-- A slot written over six cells. -/
def put6 (g p : Nat) (s : Slot) (lv : Value) (w : World) : World :=
  (((((w.setCell ⟨g, p, none⟩ (.string s.node)).setCell ⟨g, p + 1, none⟩ (.int .u64 (s.free 0))).setCell ⟨g, p + 2, none⟩ (.int .u64 (s.free 1))).setCell ⟨g, p + 3, none⟩ (.int .u64 (s.free 2))).setCell ⟨g, p + 4, none⟩ (.int .u64 (s.free 3))).setCell ⟨g, p + 5, none⟩ lv
theorem put6_cells (g p : Nat) (s : Slot) (lv : Value) (w : World) : put6 g p s lv w = w.setCells g p (cellsS s lv) := rfl
theorem put6_size (g p : Nat) (s : Slot) (lv : Value) (w : World) : (put6 g p s lv w).heap.size = w.heap.size := by unfold put6; simp
theorem put6_below {H g p : Nat} {s : Slot} {lv : Value} {w0 w : World} (h : Below H w0 w) (hg : H ≤ g) : Below H w0 (put6 g p s lv w) := (((((h.setCell hg _).setCell hg _).setCell hg _).setCell hg _).setCell hg _).setCell hg _
theorem LCells.at0 {w0 w : World} {g j : Nat} {ls : List Slot} {s : Slot} (h : LCells w0 w g 0 ls) (hj : ls[j]? = some s) :
    ∃ la lc, w.cell? ⟨g, j * 6, none⟩ = some (.string s.node) ∧ w.cell? ⟨g, j * 6 + 1, none⟩ = some (.int .u64 (s.free 0)) ∧ w.cell? ⟨g, j * 6 + 2, none⟩ = some (.int .u64 (s.free 1)) ∧ w.cell? ⟨g, j * 6 + 3, none⟩ = some (.int .u64 (s.free 2)) ∧
      w.cell? ⟨g, j * 6 + 4, none⟩ = some (.int .u64 (s.free 3)) ∧ w.cell? ⟨g, j * 6 + 5, none⟩ = some (.slice la s.labs.length lc) ∧
      w.frozen? ⟨g, j * 6, none⟩ = false ∧ w.frozen? ⟨g, j * 6 + 1, none⟩ = false ∧ w.frozen? ⟨g, j * 6 + 2, none⟩ = false ∧ w.frozen? ⟨g, j * 6 + 3, none⟩ = false ∧ w.frozen? ⟨g, j * 6 + 4, none⟩ = false ∧ w.frozen? ⟨g, j * 6 + 5, none⟩ = false ∧
      Row w0 (.slice la s.labs.length lc) s.labs ∧ s.ok := by
  obtain ⟨lv, c, f, r, ok⟩ := h j s hj
  obtain ⟨la, lc, rfl⟩ := Label.Row.slice r
  have c0 := c 0 _ rfl
  have c1 := c 1 _ rfl
  have c2 := c 2 _ rfl
  have c3 := c 3 _ rfl
  have c4 := c 4 _ rfl
  have c5 := c 5 _ rfl
  have f0 := f 0 (by decide)
  have f1 := f 1 (by decide)
  have f2 := f 2 (by decide)
  have f3 := f 3 (by decide)
  have f4 := f 4 (by decide)
  have f5 := f 5 (by decide)
  simp only [Nat.zero_add, Nat.add_zero] at c0 c1 c2 c3 c4 c5 f0 f1 f2 f3 f4 f5
  exact ⟨la, lc, c0, c1, c2, c3, c4, c5, f0, f1, f2, f3, f4, f5, r, ok⟩
theorem cellsS_len (s : Slot) (lv : Value) : (cellsS s lv).length = 6 := rfl
theorem LCells.some6 {w0 w : World} {g j i : Nat} {ls : List Slot} (h : LCells w0 w g 0 ls) (hj : j < ls.length) (hi : i < 6) : (w.cell? ⟨g, j * 6 + i, none⟩).isSome = true ∧ w.frozen? ⟨g, j * 6 + i, none⟩ = false := by
  obtain ⟨lv, c, f, _⟩ := h j ls[j] (List.getElem?_eq_getElem hj)
  have h1 := c i (cellsS ls[j] lv)[i] (List.getElem?_eq_getElem hi)
  have h2 := f i hi
  rw [Nat.zero_add] at h1 h2
  rw [h1]
  exact ⟨rfl, h2⟩
/-- Another slot in one's place. -/
theorem LCells.put {w0 w : World} {g j : Nat} {ls : List Slot} (h : LCells w0 w g 0 ls) (hj : j < ls.length) (s : Slot) (lv : Value) (hr : Row w0 lv s.labs) (ok : s.ok) : LCells w0 (put6 g (j * 6) s lv w) g 0 (ls.set j s) := by
  rw [put6_cells]
  intro i t hi
  rw [List.getElem?_set] at hi
  by_cases e : j = i
  · subst e
    rw [if_pos rfl, if_pos hj] at hi
    cases hi
    refine ⟨lv, fun x v hv => ?_, fun x hx => ?_, hr, ok⟩
    · have hx : x < (cellsS s lv).length := (List.getElem?_eq_some_iff.1 hv).1
      have := World.cell?_setCells_in g (cellsS s lv) (j * 6) w (fun y hy => (h.some6 hj hy).1) x hx
      rw [Nat.zero_add, this, ← hv, List.getElem?_eq_getElem hx]
    · rw [World.frozen?_setCells, Nat.zero_add]; exact (h.some6 hj hx).2
  · rw [if_neg e] at hi
    obtain ⟨lt, c, f, r, o⟩ := h i t hi
    refine ⟨lt, fun x v hv => ?_, fun x hx => by rw [World.frozen?_setCells]; exact f x hx, r, o⟩
    have hx : x < 6 := (List.getElem?_eq_some_iff.1 hv).1
    rw [World.cell?_setCells_out g (cellsS s lv) (j * 6) w _ (fun _ _ => by rw [cellsS_len]; show 0 + i * 6 + x < j * 6 ∨ j * 6 + 6 ≤ 0 + i * 6 + x; omega)]
    exact c x v hv
theorem below_cells (B : Nat) (g : Nat) (h : B ≤ g) : ∀ (vs : List Value) (o : Nat) (w : World), Below B w (w.setCells g o vs)
  | [], _, _ => Below.refl _ _
  | v :: vs, o, w => ((Below.refl B w).setCell (show B ≤ Addr.block ⟨g, o, none⟩ from h) v).trans (below_cells B g h vs (o + 1) _)
theorem size_cells (g : Nat) : ∀ (vs : List Value) (o : Nat) (w : World), (w.setCells g o vs).heap.size = w.heap.size
  | [], _, _ => rfl
  | v :: vs, o, w => by
    show ((w.setCell ⟨g, o, none⟩ v).setCells g (o + 1) vs).heap.size = _
    rw [size_cells g vs]; simp
/-- clear(s[k:]). -/
theorem LCells.clear_run {w0 w : World} {B g k n : Nat} {ls : List Slot} (h : LCells w0 w g 0 ls) (hB : B ≤ g) (hk : k < ls.length) (hn : n = ls.length) (c : Nat) (ty : TypeId) :
    ∃ w', (Builtin.clear_ #[22] ty #[.slice (some ⟨g, k * 6, none⟩) (n - k) c]).run Try.prog w = .ok (.tuple #[]) w' ∧ Below B w w' ∧ LCells w0 w' g 0 (ls.take k) := by
  subst hn
  obtain ⟨m, hm⟩ : ∃ m, ls.length - k = m + 1 := ⟨ls.length - k - 1, by omega⟩
  obtain ⟨zs, hzs⟩ : ∃ zs, zs = (Builtin.zeroCells zeroSl.cells (m + 1)).toList := ⟨_, rfl⟩
  have hzl : zs.length = (m + 1) * 6 := by rw [hzs]; simp [Builtin.zeroCells, Value.cells, zeroSl]
  have hz1 : ∀ v ∈ zs, v.oneCell' = true := by
    intro v hv
    rw [hzs] at hv
    simp [Builtin.zeroCells, Value.cells, zeroSl] at hv
    obtain ⟨i, _, rfl⟩ := hv
    have hm : i % 6 = 0 ∨ i % 6 = 1 ∨ i % 6 = 2 ∨ i % 6 = 3 ∨ i % 6 = 4 ∨ i % 6 = 5 := by omega
    rcases hm with hm | hm | hm | hm | hm | hm <;> simp [hm] <;> rfl
  have hat : ∀ j, j < zs.length → (w.cell? ⟨g, k * 6 + j, none⟩).isSome = true ∧ w.frozen? ⟨g, k * 6 + j, none⟩ = false := fun j hj => by
    have := h.some6 (j := (k * 6 + j) / 6) (i := (k * 6 + j) % 6) (by omega) (by omega)
    rwa [show (k * 6 + j) / 6 * 6 + (k * 6 + j) % 6 = k * 6 + j by omega] at this
  have hst := run_storeCells_cells (P := Try.prog) g (k * 6) zs 0 w (fun j hj => by rw [Nat.add_zero]; exact (hat j hj).1) (fun j hj => by rw [Nat.add_zero]; exact (hat j hj).2) hz1
  simp only [Nat.add_zero] at hst
  refine ⟨_, ?_, below_cells B g hB zs (k * 6) w, fun i t hi => ?_⟩
  · have hv : ∀ w, (zeroValue 47).run Try.prog w = .ok zeroSl w := fun w => by kernel_rfl
    rw [hm]
    simp [Builtin.clear_, run_underlying Try.underlying22, hv, ← hzs, hst]
  · have hik : i < k := by
      have := (List.getElem?_eq_some_iff.1 hi).1
      rw [List.length_take] at this
      omega
    rw [List.getElem?_take_of_lt hik] at hi
    obtain ⟨lt, c, f, r, o⟩ := h i t hi
    refine ⟨lt, fun x v hv => ?_, fun x hx => by rw [World.frozen?_setCells]; exact f x hx, r, o⟩
    have hx : x < 6 := (List.getElem?_eq_some_iff.1 hv).1
    rw [World.cell?_setCells_out g zs (k * 6) w _ (fun _ _ => by left; show 0 + i * 6 + x < k * 6; omega)]
    exact c x v hv

/-- What stands in the row while it is gone through: i are kept of the first j. -/
structure Kept (ts : List Tm) (ls cur : List Slot) (i j : Nat) : Prop where
  len : cur.length = ls.length
  lt : i < j
  le : j ≤ ls.length
  head : cur.take i = keptS ts (ls.take j)
  tail : ∀ k, j ≤ k → cur[k]? = ls[k]?
theorem keptS_succ {ts : List Tm} {ls : List Slot} {j : Nat} {s : Slot} (h : ls[j]? = some s) : keptS ts (ls.take (j + 1)) = keptS ts (ls.take j) ++ (if fit1 ts s then [s] else []) := by
  unfold keptS
  rw [List.take_add_one, h, List.filter_append]
  cases hf : fit1 ts s <;> simp [hf]
theorem Kept.start {ts : List Tm} {ls : List Slot} {k : Nat} {s : Slot} (hs : ls[k]? = some s) (hno : fit1 ts s = false) (hyes : ∀ i t, i < k → ls[i]? = some t → fit1 ts t = true) : Kept ts ls ls k (k + 1) := by
  have hk := (List.getElem?_eq_some_iff.1 hs).1
  refine ⟨rfl, by omega, hk, ?_, fun _ _ => rfl⟩
  rw [keptS_succ hs, hno]
  simp only [Bool.false_eq_true, if_false, List.append_nil]
  unfold keptS
  rw [List.filter_eq_self.2]
  intro t ht
  obtain ⟨i, hi⟩ := List.mem_iff_getElem?.1 ht
  have hik : i < k := by
    have := (List.getElem?_eq_some_iff.1 hi).1
    rw [List.length_take] at this
    omega
  rw [List.getElem?_take_of_lt hik] at hi
  exact hyes i t hik hi
theorem Kept.skip {ts : List Tm} {ls cur : List Slot} {i j : Nat} {s : Slot} (h : Kept ts ls cur i j) (hs : ls[j]? = some s) (hno : fit1 ts s = false) : Kept ts ls cur i (j + 1) := by
  refine ⟨h.len, by have := h.lt; omega, (List.getElem?_eq_some_iff.1 hs).1, ?_, fun k hk => h.tail k (by omega)⟩
  rw [keptS_succ hs, hno, h.head]
  simp
theorem Kept.keep {ts : List Tm} {ls cur : List Slot} {i j : Nat} {s : Slot} (h : Kept ts ls cur i j) (hs : ls[j]? = some s) (hyes : fit1 ts s = true) : Kept ts ls (cur.set i s) (i + 1) (j + 1) := by
  have hj := (List.getElem?_eq_some_iff.1 hs).1
  have hi : i < cur.length := by have := h.lt; have := h.len; omega
  refine ⟨by rw [List.length_set]; exact h.len, by have := h.lt; omega, hj, ?_, fun k hk => ?_⟩
  · rw [keptS_succ hs, hyes, ← h.head, List.take_add_one, List.getElem?_set_self hi, List.take_set_of_le (Nat.le_refl _)]
    rfl
  · rw [List.getElem?_set_ne (by have := h.lt; omega)]
    exact h.tail k (by omega)
theorem Kept.done {ts : List Tm} {ls cur : List Slot} {i : Nat} (h : Kept ts ls cur i ls.length) : cur.take i = keptS ts ls := by
  rw [h.head, List.take_of_length_le (Nat.le_refl _)]
theorem Kept.length {ts : List Tm} {ls cur : List Slot} {i j : Nat} (h : Kept ts ls cur i j) (hj : j = ls.length) : (keptS ts ls).length = i := by
  subst hj
  rw [← h.done, List.length_take]
  have := h.lt
  have := h.len
  omega

/-- What the question answers, in whatever world. -/
def Asks (W0 : World) (B : Nat) (ts : List Tm) (m : Nat) : Prop := ∀ (wr : World) (s : Slot) (lv : Value), Below B W0 wr → s.ok → Row W0 lv s.labs → Calls Try.prog 25 #[valS s lv, .pointer (some ⟨m, 0, none⟩)] wr fun e w' => e = .returned (.bool (!fit1 ts s)) ∧ Below wr.heap.size wr w'
/-- The first that does not match. -/
def FirstNo (ts : List Tm) (ls : List Slot) (e : Ending) : Prop :=
  (e = .returned (.int .i64 (-1)) ∧ ∀ (i : Nat) (s : Slot), ls[i]? = some s → fit1 ts s = true) ∨ (∃ (k : Nat) (s : Slot), e = .returned (.int .i64 (k : Int)) ∧ ls[k]? = some s ∧ fit1 ts s = false ∧ ∀ (i : Nat) (t : Slot), i < k → ls[i]? = some t → fit1 ts t = true)

set_option maxHeartbeats 2000000 in
set_option maxRecDepth 100000 in
theorem indexF_any {W0 : World} {B m : Nat} {ts : List Tm} (v : Value) (ls : List Slot) (w : World) (hv : LRow W0 w B v ls) (hb0 : Below B W0 w) (hBw : B ≤ w.heap.size) (hp : Asks W0 B ts m) :
    Calls Try.prog 40 #[v, .func (.func 25) #[] #[.pointer (some ⟨m, 0, none⟩)]] w fun e w' => FirstNo ts ls e ∧ Below w.heap.size w w' := by
  obtain ⟨a, cap, rfl, hln⟩ : ∃ a cap, v = .slice a ls.length cap ∧ ls.length ≤ 9223372036854775807 := by
    rcases hv with ⟨rfl, a, cap, h1, _⟩ | ⟨_, g, cap, h1, _, _, h2, h3, _⟩
    · exact ⟨a, cap, h1, by simp⟩
    · unfold maxLen at h3; exact ⟨_, cap, h1, by omega⟩
  have HV := Lib.hid hv
  have HB := Lib.hid hb0
  have HP := Lib.hid hp
  have hen := enters_lacks
  clear hv hb0 hp
  go_enter Try.func40, Try.ntmps40
  go_wp2
  go_loopw [8] (fun i wr => ∃ k : Nat, k ≤ ls.length ∧ i = .int .i64 k ∧ (∀ i t, i < k → ls[i]? = some t → fit1 ts t = true) ∧ Below w.heap.size w wr) (fun i _ => ls.length - (intOf i).toNat)
  case atStart => exact ⟨0, Nat.zero_le _, rfl, fun i _ hi => absurd hi (Nat.not_lt_zero i), Below.refl _ _⟩
  case round =>
    obtain ⟨k, hk, rfl, hyes, hb⟩ := hrel
    have HY := Lib.hid hyes
    clear hyes
    by_cases hlt : k < ls.length
    · have hltz : (k : Int) < (ls.length : Int) := by omega
      have hk0 : (0 : Int) ≤ (k : Int) := by omega
      obtain ⟨s, hs⟩ : ∃ s, ls[k]? = some s := ⟨_, List.getElem?_eq_getElem hlt⟩
      have hvr := HV.out.below hb
      rcases hvr with ⟨h0, _⟩ | ⟨_, g, cap', h1, h2, h3, h4, h5, h6⟩
      · rw [h0] at hlt; simp at hlt
      injection h1 with e1 _ e3
      subst e1; subst e3
      obtain ⟨la, lc, p0, p1, p2, p3, p4, p5, _, _, _, _, _, _, hlr, hok⟩ := h6.at0 hs
      have HC := Lib.hid (HP.out wr s (.slice la s.labs.length lc) (HB.out.trans (hb.mono hBw)) hok hlr)
      obtain ⟨q, hq⟩ : ∃ q, fit1 ts s = q := ⟨_, rfl⟩
      rw [hq] at HC
      have HS := Lib.hid hs
      have HQ := Lib.hid hq
      unfold valS at HC
      clear hs hq h6 hlr hok
      cases q with
      | true =>
        go_wp2_with fail
        (with_reducible refine HC.out.mono ?_)
        rintro _ wq ⟨rfl, hbq⟩
        clear HC p0 p1 p2 p3 p4 p5
        go_wp2
        go_roundw
        case rel =>
          refine ⟨k + 1, by omega, by go_num, fun i t hi ht => ?_, hb.trans (hbq.mono hb.size)⟩
          by_cases hik : i < k
          · exact HY.out i t hik ht
          · obtain rfl : i = k := by omega
            rw [HS.out] at ht; cases ht; exact HQ.out
        case measure => simp [intOf]; omega
      | false =>
        go_wp2_with fail
        (with_reducible refine HC.out.mono ?_)
        rintro _ wq ⟨rfl, hbq⟩
        clear HC p0 p1 p2 p3 p4 p5
        go_wp2
        go_ret
        exact ⟨.inr ⟨k, s, rfl, HS.out, HQ.out, HY.out⟩, hb.trans (hbq.mono hb.size)⟩
    · have hltz : ¬ (k : Int) < (ls.length : Int) := by omega
      go_wp2
      go_ret
      exact ⟨.inl ⟨rfl, fun i t ht => HY.out i t (by have := (List.getElem?_eq_some_iff.1 ht).1; omega) ht⟩, hb⟩
end Go.Proofs.Ytbefnophkaepmaa.Pack
