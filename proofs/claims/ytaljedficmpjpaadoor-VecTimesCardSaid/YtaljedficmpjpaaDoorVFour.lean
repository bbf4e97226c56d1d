/- What vec's Times, Fits, Order and Holds answer, for every amounts; of memory that was there nothing turns. -/
import Derived.Test.YtaljedficmpjpaaDoorVClos
namespace Go.Proofs.YtaljedficmpjpaaDoor.Vec
open Go.RowKit

/-- What Times has laid. -/
def Timed (w0 : World) (H : Nat) (n : Int) (w : World) : Prop :=
  Below H w0 w ∧ H + 3 ≤ w.heap.size ∧ w.heap[H + 1]? = some (.cells #[.int .u64 n] 22) ∧ w.heap[H + 2]? = some (box 0 0 0 0)
theorem Timed.later {w0 : World} {H : Nat} {n : Int} {a b : World} (hab : Below (H + 3) a b) (h : Timed w0 H n a) : Timed w0 H n b :=
  ⟨h.1.trans (hab.mono (by omega)), Nat.le_trans h.2.1 hab.size, (hab.block _ (by omega)).trans h.2.2.1, (hab.block _ (by omega)).trans h.2.2.2⟩
theorem times_fair {w0 : World} {H : Nat} {n : Int} {x v : Nat → Int} {ok : Nat → Bool} (st : ∀ k, k < 4 → Pure2 29 (x k) n (v k) (ok k)) :
    Fair (H + 3) 28 #[.pointer (some ⟨H + 1, 0, none⟩)] x v ok (fun _ => Timed w0 H n) (Timed w0 H n) := by
  intro k hk wr hs hp
  refine (times1 (H + 1) k (x k) n (v k) (ok k) wr (cell_at hp.2.2.1 rfl) (st k hk)).mono ?_
  rintro e w' ⟨rfl, rfl⟩
  exact ⟨rfl, Keeps.refl _ _, goes_same _ hp⟩

set_option maxRecDepth 100000 in
set_option maxHeartbeats 1000000 in
theorem times_four (x v : Nat → Int) (n : Int) (ok : Nat → Bool) (st : ∀ k, k < 4 → Pure2 29 (x k) n (v k) (ok k)) (w : World) :
    Calls Tryd.prog 14 #[vec (x 0) (x 1) (x 2) (x 3), .int .u64 n] w (Four v ok w) := by
  have hcl : ∀ (args : Array Value) (w : World), (callFunc 28 args).run Tryd.prog w = .ok (.enter 28 args) w := fun _ _ => by kernel_rfl
  have hat : ∀ W : World, W = ((w.alloc (box (x 0) (x 1) (x 2) (x 3))).alloc (.cells #[.int .u64 n] 22)).alloc (box 0 0 0 0) →
      W.heap.size = w.heap.size + 3 ∧ Timed w w.heap.size n W := by
    rintro W rfl
    refine ⟨by simp, ((((Below.refl _ _).alloc (Nat.le_refl _) _).alloc (by simp) _).alloc (by simp; omega) _), by simp, ?_, ?_⟩
    · rw [heap_alloc_old _ _ (by simp)]
      exact heap_alloc2_new _ _ _
    · exact heap_alloc_new ((w.alloc (box (x 0) (x 1) (x 2) (x 3))).alloc (.cells #[.int .u64 n] 22)) (box 0 0 0 0) ▸ (by simp)
  have HT : ∀ W, W = ((w.alloc (box (x 0) (x 1) (x 2) (x 3))).alloc (.cells #[.int .u64 n] 22)).alloc (box 0 0 0 0) →
      Hid (Calls Tryd.prog 27 #[vec (x 0) (x 1) (x 2) (x 3), .func (.func 28) #[] #[.pointer (some ⟨w.heap.size + 1, 0, none⟩)]] W (Turned v ok (fun _ => Timed w w.heap.size n) (Timed w w.heap.size n))) := by
    intro W hW
    obtain ⟨hs, hj⟩ := hat W hW
    exact Lib.hid (turn_any hcl W (fun _ a b hab h => h.later (by rw [hs] at hab; exact hab)) (fun a b hab h => h.later (by rw [hs] at hab; exact hab)) (by rw [hs]; exact times_fair st) hj)
  clear hat st hcl
  unfold vec
  unfold vec box at HT
  go_enter Tryd.func14, Tryd.ntmps14
  go_wp2_with fail
  refine ((HT _ rfl).out).mono ?_
  clear HT
  rintro e w1 (⟨hall, rfl, hb, _, _, ht0⟩ | ⟨hall, rfl, hb, _, _, ht0⟩)
  · have ht0 : w1.heap[w.heap.size + 1 + 1]? = some (box 0 0 0 0) := ht0
    obtain ⟨c0, c1, c2, c3, f0, f1, f2, f3⟩ := cells4 ht0
    obtain ⟨d0, d1, d2, d3, _⟩ := cells4 (set4_box ht0 (v 0) (v 1) (v 2) (v 3))
    have HL := Lib.hid hall
    have HB := Lib.hid (set4_below (T := w.heap.size + 1 + 1) (a := (v 0)) (b := (v 1)) (c := (v 2)) (d := (v 3)) hb (by omega))
    have HD := Lib.hid (And.intro d0 (And.intro d1 (And.intro d2 d3)))
    clear ht0 hall d0 d1 d2 d3 hb
    unfold vec
    go_wp2
    obtain ⟨d0, d1, d2, d3⟩ := HD.out
    unfold set4 at d0 d1 d2 d3
    refine bodyPost_ret (v := .tuple #[.agg #[.int .u64 (v 0), .int .u64 (v 1), .int .u64 (v 2), .int .u64 (v 3)], .bool true]) (by simp [results, Tryd.results14, go_sem, d0, d1, d2, d3]) rfl ?_
    exact ⟨.inl ⟨HL.out, rfl⟩, HB.out⟩
  · have ht0 : w1.heap[w.heap.size + 1 + 1]? = some (box 0 0 0 0) := ht0
    obtain ⟨c0, c1, c2, c3, f0, f1, f2, f3⟩ := cells4 ht0
    obtain ⟨d0, d1, d2, d3, _⟩ := cells4 (set4_box ht0 0 0 0 0)
    have HL := Lib.hid hall
    have HB := Lib.hid (set4_below (T := w.heap.size + 1 + 1) (a := 0) (b := 0) (c := 0) (d := 0) hb (by omega))
    have HD := Lib.hid (And.intro d0 (And.intro d1 (And.intro d2 d3)))
    clear ht0 hall d0 d1 d2 d3 hb
    unfold vec
    go_wp2
    obtain ⟨d0, d1, d2, d3⟩ := HD.out
    unfold set4 at d0 d1 d2 d3
    refine bodyPost_ret (v := .tuple #[.agg #[.int .u64 0, .int .u64 0, .int .u64 0, .int .u64 0], .bool false]) (by simp [results, Tryd.results14, go_sem, d0, d1, d2, d3]) rfl ?_
    exact ⟨.inr ⟨HL.out, rfl⟩, HB.out⟩

/-- Does each amount fit? -/
def fitsB (x y : Nat → Int) : Bool := decide (x 0 ≤ y 0 ∧ x 1 ≤ y 1 ∧ x 2 ≤ y 2 ∧ x 3 ≤ y 3)
theorem four_all {p : Nat → Prop} : (∀ i, i < 4 → p i) ↔ p 0 ∧ p 1 ∧ p 2 ∧ p 3 :=
  ⟨fun h => ⟨h 0 (by omega), h 1 (by omega), h 2 (by omega), h 3 (by omega)⟩, fun h i hi => by
    have : i = 0 ∨ i = 1 ∨ i = 2 ∨ i = 3 := by omega
    rcases this with rfl | rfl | rfl | rfl
    · exact h.1
    · exact h.2.1
    · exact h.2.2.1
    · exact h.2.2.2⟩
theorem fits_true {x y : Nat → Int} : fitsB x y = true ↔ ∀ i, i < 4 → x i ≤ y i := by unfold fitsB; rw [decide_eq_true_iff, four_all (p := fun i => x i ≤ y i)]
theorem fits_false {x y : Nat → Int} : fitsB x y = false ↔ ¬ ∀ i, i < 4 → x i ≤ y i := by rw [← fits_true]; simp
def FitsLaid (w0 : World) (H : Nat) (x y : Nat → Int) (k : Nat) (w : World) : Prop :=
  Below H w0 w ∧ w.heap[H + 1]? = some (box (y 0) (y 1) (y 2) (y 3)) ∧ ∀ i, i < k → x i ≤ y i
def FitsNot (w0 : World) (H : Nat) (x y : Nat → Int) (w : World) : Prop := Below H w0 w ∧ ¬ ∀ i, i < 4 → x i ≤ y i
theorem fits_step {w0 : World} {H : Nat} {x y : Nat → Int} (k : Nat) (hk : k < 4) (wr : World) (h : FitsLaid w0 H x y k wr) :
    Calls Tryd.prog 23 (#[.int .i64 k, .int .u64 (x k)] ++ #[.pointer (some ⟨H + 1, 0, none⟩)]) wr (Step (FitsLaid w0 H x y (k + 1)) (FitsNot w0 H x y)) := by
  obtain ⟨hb, ht, hall⟩ := h
  refine (fits1 (H + 1) k hk (x k) (y k) wr (cell4 ht k hk)).mono ?_
  rintro e w' ⟨rfl, rfl⟩
  by_cases hx : x k ≤ y k
  · rw [decide_eq_true hx]
    refine .inl ⟨rfl, hb, ht, fun i hi => ?_⟩
    by_cases e : i = k
    · rw [e]; exact hx
    · exact hall i (by omega)
  · rw [decide_eq_false hx]
    exact .inr ⟨rfl, hb, fun h => hx (h k hk)⟩

set_option maxRecDepth 100000 in
set_option maxHeartbeats 1000000 in
theorem fits_any (x y : Nat → Int) (w : World) :
    Calls Tryd.prog 11 #[vec (x 0) (x 1) (x 2) (x 3), vec (y 0) (y 1) (y 2) (y 3)] w fun e w' => e = .returned (.bool (fitsB x y)) ∧ Below w.heap.size w w' := by
  have hcl : ∀ (args : Array Value) (w : World), (callFunc 23 args).run Tryd.prog w = .ok (.enter 23 args) w := fun _ _ => by kernel_rfl
  have hat : FitsLaid w w.heap.size x y 0 (((w.alloc (box (x 0) (x 1) (x 2) (x 3))).alloc (box (y 0) (y 1) (y 2) (y 3))).alloc (box (x 0) (x 1) (x 2) (x 3))) := by
    refine ⟨((((Below.refl _ _).alloc (Nat.le_refl _) _).alloc (by simp) _).alloc (by simp; omega) _), ?_, fun i hi => absurd hi (by omega)⟩
    rw [heap_alloc_old _ _ (by simp)]
    exact heap_alloc2_new _ _ _
  have HE := Lib.hid (each_any (x 0) (x 1) (x 2) (x 3) 23 #[.pointer (some ⟨w.heap.size + 1, 0, none⟩)] (FitsLaid w w.heap.size x y) (FitsNot w w.heap.size x y) _ hcl hat
    (fits_step 0 (by omega)) (fits_step 1 (by omega)) (fits_step 2 (by omega)) (fits_step 3 (by omega)))
  clear hcl hat
  unfold vec
  unfold vec box at HE
  go_enter Tryd.func11, Tryd.ntmps11
  go_wp2_with fail
  refine HE.out.mono ?_
  clear HE
  rintro e w1 (⟨rfl, hb, _, hall⟩ | ⟨rfl, hb, hno⟩)
  · have HR : Hid (true = fitsB x y) := by exact (fits_true.2 hall).symm
    clear hall
    go_wp2
    go_ret
    exact ⟨by rw [← HR.out]; rfl, hb⟩
  · have HR : Hid (false = fitsB x y) := by exact (fits_false.2 hno).symm
    clear hno
    go_wp2
    go_ret
    exact ⟨by rw [← HR.out]; rfl, hb⟩

/-- Which of two amounts has less of the first kind in which they differ. -/
def ordV (x y : Nat → Int) : Int := if cmp (x 0) (y 0) ≠ 0 then cmp (x 0) (y 0) else if cmp (x 1) (y 1) ≠ 0 then cmp (x 1) (y 1) else if cmp (x 2) (y 2) ≠ 0 then cmp (x 2) (y 2) else cmp (x 3) (y 3)
theorem ordV_of {x y : Nat → Int} {k : Nat} (hk : k < 4) (h : ∀ i, i < k → cmp (x i) (y i) = 0) (hne : cmp (x k) (y k) ≠ 0) : ordV x y = cmp (x k) (y k) := by
  have : k = 0 ∨ k = 1 ∨ k = 2 ∨ k = 3 := by omega
  unfold ordV
  rcases this with rfl | rfl | rfl | rfl
  · rw [if_pos hne]
  · rw [if_neg (by simp [h 0]), if_pos hne]
  · rw [if_neg (by simp [h 0]), if_neg (by simp [h 1]), if_pos hne]
  · rw [if_neg (by simp [h 0]), if_neg (by simp [h 1]), if_neg (by simp [h 2])]
theorem ordV_zero {x y : Nat → Int} (h : ∀ i, i < 4 → cmp (x i) (y i) = 0) : ordV x y = 0 := by
  unfold ordV
  simp [h 0, h 1, h 2, h 3]
def OrderLaid (w0 : World) (H : Nat) (x y : Nat → Int) (k : Nat) (w : World) : Prop :=
  Below H w0 w ∧ w.heap[H + 1]? = some (box (y 0) (y 1) (y 2) (y 3)) ∧ w.heap[H + 2]? = some (.cells #[.int .i64 0] 3) ∧ ∀ i, i < k → cmp (x i) (y i) = 0
def OrderTold (w0 : World) (H : Nat) (x y : Nat → Int) (w : World) : Prop := Below H w0 w ∧ w.heap[H + 2]? = some (.cells #[.int .i64 (ordV x y)] 3)
theorem order_step {w0 : World} {H : Nat} {x y : Nat → Int} (k : Nat) (hk : k < 4) (wr : World) (h : OrderLaid w0 H x y k wr) :
    Calls Tryd.prog 24 (#[.int .i64 k, .int .u64 (x k)] ++ #[.pointer (some ⟨H + 1, 0, none⟩), .pointer (some ⟨H + 2, 0, none⟩)]) wr (Step (OrderLaid w0 H x y (k + 1)) (OrderTold w0 H x y)) := by
  obtain ⟨hb, ht, hc, hall⟩ := h
  refine (order1 (H + 1) (H + 2) k hk (x k) (y k) wr (cell4 ht k hk) _ hc).mono ?_
  rintro e w' ⟨rfl, rfl⟩
  have hb' := hb.setCell (p := ⟨H + 2, 0, none⟩) (by simp) (.int .i64 (cmp (x k) (y k)))
  have hc' := heap_setCell_same _ (H + 2) 0 _ _ (.int .i64 (cmp (x k) (y k))) hc
  by_cases hx : cmp (x k) (y k) = 0
  · rw [hx] at hb' hc' ⊢
    refine .inl ⟨rfl, hb', (heap_setCell_other _ _ _ _ (by simp)).trans ht, hc', fun i hi => ?_⟩
    by_cases e : i = k
    · rw [e]; exact hx
    · exact hall i (by omega)
  · refine .inr ⟨by simp [hx], hb', ?_⟩
    rw [ordV_of hk hall hx]
    exact hc'

set_option maxRecDepth 100000 in
set_option maxHeartbeats 1000000 in
theorem order_any (x y : Nat → Int) (w : World) :
    Calls Tryd.prog 12 #[vec (x 0) (x 1) (x 2) (x 3), vec (y 0) (y 1) (y 2) (y 3)] w fun e w' => e = .returned (.int .i64 (ordV x y)) ∧ Below w.heap.size w w' := by
  have hcl : ∀ (args : Array Value) (w : World), (callFunc 24 args).run Tryd.prog w = .ok (.enter 24 args) w := fun _ _ => by kernel_rfl
  have hat : OrderLaid w w.heap.size x y 0 ((((w.alloc (box (x 0) (x 1) (x 2) (x 3))).alloc (box (y 0) (y 1) (y 2) (y 3))).alloc (.cells #[.int .i64 0] 3)).alloc (box (x 0) (x 1) (x 2) (x 3))) := by
    refine ⟨(((((Below.refl _ _).alloc (Nat.le_refl _) _).alloc (by simp) _).alloc (by simp; omega) _).alloc (by simp; omega) _), ?_, ?_, fun i hi => absurd hi (by omega)⟩
    · rw [heap_alloc_old _ _ (by simp), heap_alloc_old _ _ (by simp)]
      exact heap_alloc2_new _ _ _
    · rw [heap_alloc_old _ _ (by simp)]
      exact heap_alloc_new ((w.alloc (box (x 0) (x 1) (x 2) (x 3))).alloc (box (y 0) (y 1) (y 2) (y 3))) (.cells #[.int .i64 0] 3) ▸ (by simp)
  have HE := Lib.hid (each_any (x 0) (x 1) (x 2) (x 3) 24 #[.pointer (some ⟨w.heap.size + 1, 0, none⟩), .pointer (some ⟨w.heap.size + 1 + 1, 0, none⟩)] (OrderLaid w w.heap.size x y) (OrderTold w w.heap.size x y) _ hcl hat
    (order_step 0 (by omega)) (order_step 1 (by omega)) (order_step 2 (by omega)) (order_step 3 (by omega)))
  clear hcl hat
  obtain ⟨r, hr⟩ : ∃ r, r = ordV x y := ⟨_, rfl⟩
  rw [← hr]
  have HR := Lib.hid hr
  clear hr
  unfold vec
  unfold vec box at HE
  go_enter Tryd.func12, Tryd.ntmps12
  go_wp2_with fail
  refine HE.out.mono ?_
  clear HE
  intro e w1 he
  have hw : (e = .returned (.bool true) ∨ e = .returned (.bool false)) ∧ OrderTold w w.heap.size x y w1 := by
    rcases he with ⟨rfl, hb, _, hc, hall⟩ | ⟨rfl, h⟩
    · exact ⟨.inl rfl, hb, by rw [ordV_zero hall]; exact hc⟩
    · exact ⟨.inr rfl, h⟩
  clear he
  obtain ⟨he, hb, hc⟩ := hw
  rw [← HR.out] at hc
  have hc0 : w1.heap[w.heap.size + 1 + 1]? = some (.cells #[.int .i64 r] 3) := hc
  have c := cell_at (i := 0) hc0 rfl
  have f := frozen_at (i := 0) hc0
  have d := cell_at (i := 0) (heap_setCell_same _ _ 0 _ _ (.int .i64 r) hc0) rfl
  have HD := Lib.hid d
  have HB := Lib.hid (hb.setCell (p := ⟨w.heap.size + 1 + 1, 0, none⟩) (by simp; omega) (.int .i64 r))
  clear d hb hc hc0
  rcases he with rfl | rfl
  · go_wp2
    refine bodyPost_ret (v := .int .i64 r) (by simp [results, Tryd.results12, go_sem, HD.out]) rfl ⟨rfl, HB.out⟩
  · go_wp2
    refine bodyPost_ret (v := .int .i64 r) (by simp [results, Tryd.results12, go_sem, HD.out]) rfl ⟨rfl, HB.out⟩

/-- How many are held, as far as k kinds say. -/
def cnt (x y : Nat → Int) (m : Int) : Nat → Int
  | 0 => m
  | k + 1 => if 0 < y k then least (cnt x y m k) (x k / y k) else cnt x y m k
theorem cnt_pos {x y : Nat → Int} {m : Int} {k : Nat} (h : 0 < y k) : cnt x y m (k + 1) = least (cnt x y m k) (x k / y k) := by rw [cnt, if_pos h]
theorem cnt_neg {x y : Nat → Int} {m : Int} {k : Nat} (h : ¬ 0 < y k) : cnt x y m (k + 1) = cnt x y m k := by rw [cnt, if_neg h]
def HoldLaid (w0 : World) (H : Nat) (x y : Nat → Int) (m : Int) (k : Nat) (w : World) : Prop :=
  Below H w0 w ∧ w.heap[H]? = some (box (x 0) (x 1) (x 2) (x 3)) ∧ w.heap[H + 2]? = some (.cells #[.int .u64 (cnt x y m k)] 22)
def InRange (x : Nat → Int) : Prop := ∀ i, i < 4 → 0 ≤ x i ∧ x i ≤ 18446744073709551615
theorem hold_step {w0 : World} {H : Nat} {x y : Nat → Int} {m : Int} (hx : InRange x) (hy : InRange y) (k : Nat) (hk : k < 4) (wr : World) (h : HoldLaid w0 H x y m k wr) :
    Calls Tryd.prog 26 (#[.int .i64 k, .int .u64 (y k)] ++ #[.pointer (some ⟨H + 2, 0, none⟩), .pointer (some ⟨H, 0, none⟩)]) wr (Step (HoldLaid w0 H x y m (k + 1)) (fun _ => False)) := by
  obtain ⟨hb, ht, hc⟩ := h
  have hy0 := hy k hk
  have hx0 := hx k hk
  by_cases h0 : 0 < y k
  · refine (holds1_some (H + 2) H k hk (x k) (y k) _ h0 hx0.1 hx0.2 wr (cell4 ht k hk) hc).mono ?_
    rintro e w' ⟨rfl, rfl⟩
    refine .inl ⟨rfl, (hb.setCell (by simp) _).drew, ?_, ?_⟩
    · exact (heap_setCell_other wr ⟨H + 2, 0, none⟩ H _ (by simp)).trans ht
    · have := heap_setCell_same wr (H + 2) 0 _ _ (.int .u64 (least (cnt x y m k) (x k / y k))) hc
      rw [cnt_pos h0]
      exact this
  · have h1 : y k = 0 := by omega
    rw [h1]
    refine (holds1_none (H + 2) H k wr).mono ?_
    rintro e w' ⟨rfl, rfl⟩
    refine .inl ⟨rfl, hb, ht, ?_⟩
    rw [cnt_neg h0]
    exact hc

theorem cnt_bounds {x y : Nat → Int} {m : Int} (hx : InRange x) (hm : 0 ≤ m) : ∀ k, k ≤ 4 → 0 ≤ cnt x y m k ∧ cnt x y m k ≤ m
  | 0, _ => ⟨hm, Int.le_refl _⟩
  | k + 1, hk => by
    have ih := cnt_bounds (y := y) hx hm k (by omega)
    by_cases h0 : 0 < y k
    · rw [cnt_pos h0]
      have : 0 ≤ x k / y k := Int.ediv_nonneg (hx k (by omega)).1 (by omega)
      unfold least
      split <;> omega
    · rw [cnt_neg h0]
      exact ih

set_option maxRecDepth 100000 in
set_option maxHeartbeats 1000000 in
theorem holds_any (x y : Nat → Int) (hx : InRange x) (hy : InRange y) (n : Int) (m : Int) (hn : n ≤ 9223372036854775807) (hn' : -9223372036854775808 ≤ n) (hm : m = if 0 < n then n else 0) (w : World) :
    Calls Tryd.prog 13 #[vec (x 0) (x 1) (x 2) (x 3), vec (y 0) (y 1) (y 2) (y 3), .int .i64 n] w fun e w' => e = .returned (.int .i64 (cnt x y m 4)) ∧ Below w.heap.size w w' := by
  have hcl : ∀ (args : Array Value) (w : World), (callFunc 26 args).run Tryd.prog w = .ok (.enter 26 args) w := fun _ _ => by kernel_rfl
  have hm0 : 0 ≤ m ∧ m ≤ 9223372036854775807 := by rw [hm]; split <;> omega
  have hb4 := cnt_bounds (y := y) hx hm0.1 4 (by omega)
  have hat : HoldLaid w w.heap.size x y m 0 ((((w.alloc (box (x 0) (x 1) (x 2) (x 3))).alloc (box (y 0) (y 1) (y 2) (y 3))).alloc (.cells #[.int .u64 m] 22)).alloc (box (y 0) (y 1) (y 2) (y 3))) := by
    refine ⟨(((((Below.refl _ _).alloc (Nat.le_refl _) _).alloc (by simp) _).alloc (by simp; omega) _).alloc (by simp; omega) _), ?_, ?_⟩
    · rw [heap_alloc_old _ _ (by simp; omega), heap_alloc_old _ _ (by simp; omega), heap_alloc_old _ _ (by simp)]
      exact heap_alloc_new _ _
    · rw [heap_alloc_old _ _ (by simp)]
      exact heap_alloc_new ((w.alloc (box (x 0) (x 1) (x 2) (x 3))).alloc (box (y 0) (y 1) (y 2) (y 3))) (.cells #[.int .u64 m] 22) ▸ (by simp)
  have HE := Lib.hid (each_any (y 0) (y 1) (y 2) (y 3) 26 #[.pointer (some ⟨w.heap.size + 1 + 1, 0, none⟩), .pointer (some ⟨w.heap.size, 0, none⟩)] (HoldLaid w w.heap.size x y m) (fun _ => False) _ hcl hat
    (hold_step hx hy 0 (by omega)) (hold_step hx hy 1 (by omega)) (hold_step hx hy 2 (by omega)) (hold_step hx hy 3 (by omega)))
  clear hcl hat hx hy
  obtain ⟨r, hr⟩ : ∃ r, r = cnt x y m 4 := ⟨_, rfl⟩
  rw [← hr] at hb4
  rw [← hr]
  have HR := Lib.hid hr
  have HM := Lib.hid hm
  clear hr hm
  unfold vec
  unfold vec box at HE
  by_cases h0 : 0 < n
  · obtain rfl : m = n := by rw [HM.out, if_pos h0]
    clear HM
    go_enter Tryd.func13, Tryd.ntmps13
    go_wp2_with fail
    refine HE.out.mono ?_
    clear HE
    rintro e w1 (⟨rfl, hb, _, hc⟩ | ⟨rfl, hf⟩)
    · rw [← HR.out] at hc
      have hc0 : w1.heap[w.heap.size + 1 + 1]? = some (.cells #[.int .u64 r] 22) := hc
      have c := cell_at (i := 0) hc0 rfl
      clear hc hc0
      go_wp2
      go_ret
      exact ⟨rfl, hb⟩
    · exact hf.elim
  · obtain rfl : m = 0 := by rw [HM.out, if_neg h0]
    by_cases h1 : n = 0
    · subst h1
      clear HM
      go_enter Tryd.func13, Tryd.ntmps13
      go_wp2_with fail
      refine HE.out.mono ?_
      clear HE
      rintro e w1 (⟨rfl, hb, _, hc⟩ | ⟨rfl, hf⟩)
      · rw [← HR.out] at hc
        have hc0 : w1.heap[w.heap.size + 1 + 1]? = some (.cells #[.int .u64 r] 22) := hc
        have c := cell_at (i := 0) hc0 rfl
        clear hc hc0
        go_wp2
        go_ret
        exact ⟨rfl, hb⟩
      · exact hf.elim
    · have h2 : n < 0 := by omega
      clear h1
      clear HM
      go_enter Tryd.func13, Tryd.ntmps13
      go_wp2_with fail
      refine HE.out.mono ?_
      clear HE
      rintro e w1 (⟨rfl, hb, _, hc⟩ | ⟨rfl, hf⟩)
      · rw [← HR.out] at hc
        have hc0 : w1.heap[w.heap.size + 1 + 1]? = some (.cells #[.int .u64 r] 22) := hc
        have c := cell_at (i := 0) hc0 rfl
        clear hc hc0
        go_wp2
        go_ret
        exact ⟨rfl, hb⟩
      · exact hf.elim
end Go.Proofs.YtaljedficmpjpaaDoor.Vec
