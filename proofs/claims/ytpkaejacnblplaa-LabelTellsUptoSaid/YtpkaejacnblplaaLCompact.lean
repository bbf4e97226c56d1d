/- What slices.CompactFunc does with up to eight pairs of a row of one's own: it hands the row back as it is, if no key stands twice; else a shorter one. Of memory that was there nothing turns. -/
import Derived.Test.YtpkaejacnblplaaLSort
import Derived.Deep.QuietTactic
import Derived.BigQuiet
import Derived.Shelf.SlSortCmp.QuietGrown
namespace Go.Proofs.Ytpkaejacnblplaa.Label
open Go.RowKit Go.Proofs.Ytpkaejacnblplaa.Word Go.Sort

theorem enters_twice (args : Array Value) (w : World) : (callFunc 62 args).run Try.prog w = .ok (.enter 62 args) w := by kernel_rfl

theorem twice_grown (x y : Pr) (w : World) : Calls Try.prog 62 #[.agg #[.string x.1, .string x.2], .agg #[.string y.1, .string y.2]] w fun e w' => e = .returned (.bool (x.1.toList == y.1.toList)) ∧ ∃ q os', w' = grow (w.drewN q) os' :=
  (twice_any x y w).mono fun _ _ ⟨he, hw⟩ => ⟨he, 0, _, hw.trans (boxes_grow _ _ _)⟩
theorem below_grow (w : World) (n : Nat) (os : Array Obj) : Below w.heap.size w (grow (w.drewN n) os) := by
  refine ⟨rfl, rfl, rfl, by unfold grow; simp [World.drewN], fun k hk => ?_⟩
  show ((w.drewN n).heap ++ os)[k]? = _
  rw [Array.getElem?_append_left (by exact hk)]
  rfl

set_option maxHeartbeats 2000000 in
set_option maxRecDepth 100000 in
theorem compact_same (B : Nat) (v : Value) (ls : List Pr) (w : World) (hv : Mine B w v ls) (hl : ls.length ≤ 8) (hd : ¬ Dup ls) :
    Calls Try.prog 61 #[v, .func (.func 62) #[] #[]] w fun e w' => e = .returned v ∧ Below w.heap.size w w' := by
  rcases hv with ⟨rfl, a, cap, rfl, hm⟩ | ⟨hne, g, cap, rfl, hB, hg, hcap, hm, hH⟩
  · go_enter Try.func61, Try.ntmps61
    go_wp2
    go_ret
    exact ⟨rfl, Below.refl _ _⟩
  · have HC := Lib.hid (holds_cells hH)
    have HD := Lib.hid hd
    have hlen := List.length_pos_iff.2 hne
    have enters := enters_twice
    have mixed : Try.prog.follows .mixedOrders = true := by kernel_rfl
    obtain ⟨o, ho⟩ : ∃ o : Nat, o = 0 := ⟨0, rfl⟩
    rw [← ho] at HC ⊢
    clear hH hd hne ho
    by_cases h2 : ls.length < 2
    · have h2z : (ls.length : Int) < 2 := by omega
      go_enter Try.func61, Try.ntmps61
      go_wp2
      go_ret
      exact ⟨rfl, Below.refl _ _⟩
    · have h2z : ¬ (ls.length : Int) < 2 := by omega
      go_enter Try.func61, Try.ntmps61
      go_wp2
      go_loopw [5] (fun i wr => ∃ k : Nat, k + 1 ≤ ls.length ∧ i = .int .i64 ((k : Int) + 1) ∧ Below w.heap.size w wr) (fun i _ => ls.length - (intOf i).toNat)
      case atStart => exact ⟨0, by omega, rfl, Below.refl _ _⟩
      case round =>
        obtain ⟨k, hk, rfl, hb⟩ := hrel
        by_cases hlt : k + 1 < ls.length
        · have hltz : (k : Int) + 1 < (ls.length : Int) := by omega
          obtain ⟨x, hx⟩ : ∃ x, ls[k]? = some x := ⟨_, List.getElem?_eq_getElem (by omega)⟩
          obtain ⟨y, hy⟩ : ∃ y, ls[k + 1]? = some y := ⟨_, List.getElem?_eq_getElem hlt⟩
          have hgr : g < wr.heap.size := by have := hb.size; omega
          have hcx := HC.out.below hg hb k x hx
          have hcy := HC.out.below hg hb (k + 1) y hy
          have cx1 := fun n os => cell_grown (a := ⟨g, o + k * 2, none⟩) hgr hcx.1 n os
          have cx2 := fun n os => cell_grown (a := ⟨g, o + k * 2 + 1, none⟩) hgr hcx.2 n os
          have cy1 := fun n os => cell_grown (a := ⟨g, o + (k + 1) * 2, none⟩) hgr hcy.1 n os
          have cy2 := fun n os => cell_grown (a := ⟨g, o + (k + 1) * 2 + 1, none⟩) hgr hcy.2 n os
          clear hcx hcy
          have hne : (y.1.toList == x.1.toList) = false := by
            rw [Bool.eq_false_iff]
            exact fun h => HD.out ⟨k, x, y, hx, hy, h⟩
          have HT : Hid (∀ w, Calls Try.prog 62 #[.agg #[.string y.1, .string y.2], .agg #[.string x.1, .string x.2]] w fun e w' => e = .returned (.bool false) ∧ ∃ q os', w' = grow (w.drewN q) os') := Lib.hid fun w => by
            have := twice_grown y x w
            rw [hne] at this
            exact this
          obtain ⟨x1, x2⟩ := x
          obtain ⟨y1, y2⟩ := y
          clear hx hy hne
          have p0 : (0 : Int) ≤ (k : Int) + 1 := by omega
          have p1 : (k : Int) < (ls.length : Int) := by omega
          have e0 : ((k : Int) + 1).toNat = k + 1 := by omega
          have hwp : IntKind.i64.wrap (k : Int) = (k : Int) := by rw [IntKind.wrap_i64]; omega
          go_wp2_with fail
          go_quiet_grown (first | (go_at_fn 62; refine Calls.grown_of (HT.out _)))
          go_wp2
          go_roundw
          case rel => exact ⟨k + 1, by omega, by go_num, hb.trans ((below_grow _ _ _).mono hb.size)⟩
          case measure => simp [intOf]; omega
        · have hltz : ¬ ((k : Int) + 1 < (ls.length : Int)) := by omega
          go_wp2
          go_ret
          exact ⟨rfl, hb⟩

/-- A row of n pairs of texts, whatever they are, that may be written. -/
def Texts (w : World) (g o n : Nat) : Prop := ∃ F : Array Value, F.size = n * 2 ∧ (∀ i, i < n * 2 → ∃ s, F[i]! = .string s) ∧ Holds id w g o F
theorem texts_of {w : World} {g o : Nat} {ls : List Pr} (h : HoldsK enc 2 w g o ls.toArray) : Texts w g o ls.length := by
  refine ⟨flatK enc 2 ls.toArray, by rw [size_flatK]; simp, fun i hi => ?_, h⟩
  rw [get_flatK enc 2 ls.toArray i (by simpa using hi)]
  have hm : i % 2 = 0 ∨ i % 2 = 1 := by omega
  rcases hm with hm | hm <;> rw [hm] <;> exact ⟨_, rfl⟩
theorem Texts.cells {w : World} {g o n : Nat} (h : Texts w g o n) {j : Nat} (hj : j < n) : ∃ x : Pr, w.cell? ⟨g, o + j * 2, none⟩ = some (.string x.1) ∧ w.cell? ⟨g, o + j * 2 + 1, none⟩ = some (.string x.2) := by
  obtain ⟨F, h1, h2, h3⟩ := h
  obtain ⟨a, ha⟩ := h2 (j * 2) (by omega)
  obtain ⟨b, hb⟩ := h2 (j * 2 + 1) (by omega)
  refine ⟨(a, b), ?_, ?_⟩
  · have := (h3 (j * 2) (by omega)).1; rw [ha] at this; exact this
  · have := (h3 (j * 2 + 1) (by omega)).1; rw [hb] at this; exact this
theorem Texts.grow {w : World} {g o n : Nat} (h : Texts w g o n) (hg : g < w.heap.size) (m : Nat) (os : Array Obj) : Texts (Go.Sort.grow (w.drewN m) os) g o n := by
  obtain ⟨F, h1, h2, h3⟩ := h
  exact ⟨F, h1, h2, holds_grow id (w.drewN m) os g o F hg h3⟩
theorem Texts.drew {w : World} {g o n : Nat} (h : Texts w g o n) : Texts w.drew g o n := h
theorem Texts.set {w : World} {g o n : Nat} (h : Texts w g o n) {j : Nat} (hj : j < n) (a b : ByteArray) (P : Program) :
    Sem.run P (storeCells ⟨g, o + j * 2, none⟩ [.string a, .string b] 0) w = .ok () (w.setCells g (o + j * 2) [.string a, .string b]) ∧ Texts (w.setCells g (o + j * 2) [.string a, .string b]) g o n := by
  obtain ⟨F, h1, h2, h3⟩ := h
  refine ⟨stores_of_holds P h3 (j * 2) _ (by simp [h1]; omega) (by intro v hv; simp at hv; rcases hv with rfl | rfl <;> rfl), setMany F (j * 2) [.string a, .string b], by rw [size_setMany]; exact h1, fun i hi => ?_, holds_setCells_c h3 (j * 2) _ (by simp [h1]; omega)⟩
  rw [get_setMany _ _ _ _ (by rw [h1]; exact hi)]
  split
  · rename_i hc
    have : i - j * 2 = 0 ∨ i - j * 2 = 1 := by simp at hc; omega
    rcases this with e | e <;> rw [e] <;> exact ⟨_, rfl⟩
  · exact h2 i hi
theorem Texts.ready {w : World} {g o n : Nat} (h : Texts w g o n) {j : Nat} (hj : j < n) (a b : ByteArray) : ∃ u v, w.cell? ⟨g, o + j * 2, none⟩ = some u ∧ w.frozen? ⟨g, o + j * 2, none⟩ = false ∧
    (w.setCell ⟨g, o + j * 2, none⟩ (.string a)).cell? ⟨g, o + j * 2 + 1, none⟩ = some v ∧ (w.setCell ⟨g, o + j * 2, none⟩ (.string a)).frozen? ⟨g, o + j * 2 + 1, none⟩ = false ∧
    Texts ((w.setCell ⟨g, o + j * 2, none⟩ (.string a)).setCell ⟨g, o + j * 2 + 1, none⟩ (.string b)) g o n := by
  have hs := (h.set hj a b Try.prog).2
  obtain ⟨F, h1, h2, h3⟩ := h
  have h4 := holds_setCells_c h3 (j * 2) [.string a] (by simp [h1]; omega)
  have e1 := h3 (j * 2) (by omega)
  have e2 := h4 (j * 2 + 1) (by rw [size_setMany]; omega)
  exact ⟨_, _, e1.1, e1.2, e2.1, e2.2, hs⟩
theorem below_set {B : Nat} (w : World) {g : Nat} (h : B ≤ g) (o : Nat) (v : Value) : Below B w (w.setCell ⟨g, o, none⟩ v) := by
  rw [setCell_eq]
  exact ⟨rfl, rfl, rfl, by simp [mapBlock], fun k hk => by show (w.heap.modify g _)[k]? = _; rw [Array.getElem?_modify, if_neg (by omega)]⟩
theorem size_set (w : World) (g o : Nat) (v : Value) : (w.setCell ⟨g, o, none⟩ v).heap.size = w.heap.size := by rw [setCell_eq]; simp [mapBlock]
theorem below_setCells (B : Nat) (g : Nat) (h : B ≤ g) : ∀ (vs : List Value) (o : Nat) (w : World), Below B w (w.setCells g o vs)
  | [], _, _ => Below.refl _ _
  | v :: vs, o, w => by
    have h1 : Below B w (w.setCell ⟨g, o, none⟩ v) := by
      rw [setCell_eq]
      exact ⟨rfl, rfl, rfl, by simp [mapBlock], fun k hk => by show (w.heap.modify g _)[k]? = _; rw [Array.getElem?_modify, if_neg (by omega)]⟩
    exact h1.trans (below_setCells B g h vs (o + 1) _)
theorem size_sets (g : Nat) : ∀ (vs : List Value) (o : Nat) (w : World), (w.setCells g o vs).heap.size = w.heap.size
  | [], _, _ => rfl
  | v :: vs, o, w => by
    show ((w.setCell ⟨g, o, none⟩ v).setCells g (o + 1) vs).heap.size = _
    rw [size_sets g vs, setCell_eq]
    simp [mapBlock]
theorem clear_run {B : Nat} {w : World} {g o n : Nat} (h : Texts w g o n) (hB : B ≤ g) {k c : Nat} (hk : k < n) (ty : TypeId) :
    ∃ w', (Builtin.clear_ #[22] ty #[.slice (some ⟨g, o + k * 2, none⟩) (n - k) c]).run Try.prog w = .ok (.tuple #[]) w' ∧ Below B w w' := by
  obtain ⟨F, h1, h2, h3⟩ := h
  obtain ⟨m, hm⟩ : ∃ m, n - k = m + 1 := ⟨n - k - 1, by omega⟩
  obtain ⟨zs, hzs⟩ : ∃ zs, zs = (Builtin.zeroCells (Value.agg #[.string ByteArray.empty, .string ByteArray.empty]).cells (m + 1)).toList := ⟨_, rfl⟩
  have hzl : zs.length = (m + 1) * 2 := by rw [hzs]; simp [Builtin.zeroCells, Value.cells]
  have hz1 : ∀ v ∈ zs, v.oneCell' = true := by
    intro v hv
    rw [hzs] at hv
    simp [Builtin.zeroCells, Value.cells] at hv
    obtain ⟨i, _, rfl⟩ := hv
    have hm : i % 2 = 0 ∨ i % 2 = 1 := by omega
    rcases hm with hm | hm <;> simp [hm] <;> rfl
  have hst := run_storeCells_cells (P := Try.prog) g (o + k * 2) zs 0 w (fun j hj => by rw [Nat.add_zero, Nat.add_assoc, (h3 (k * 2 + j) (by omega)).1]; rfl) (fun j hj => by rw [Nat.add_zero, Nat.add_assoc]; exact (h3 (k * 2 + j) (by omega)).2) hz1
  simp only [Nat.add_zero] at hst
  refine ⟨_, ?_, below_setCells B g hB zs (o + k * 2) w⟩
  have hv : ∀ w, (zeroValue 48).run Try.prog w = .ok (.agg #[.string ByteArray.empty, .string ByteArray.empty]) w := fun w => by kernel_rfl
  rw [hm]
  simp [Builtin.clear_, run_underlying Try.underlying22, hv, ← hzs, hst]
end Go.Proofs.Ytpkaejacnblplaa.Label
