/- Who is ahead, whose priority may be, and at which place the first such entry stands (chapter 14): the program's Ahead, mayWait, Place; of memory that was there nothing turns. -/
import Derived.Test.YtimaehaaidjokaaUSays
import Derived.Test.YtimaehaaidjokaaDWhole
import Derived.Laws.EntriesVeiled
namespace Go.Proofs.Ytimaehaaidjokaa.Queue
open Go.RowKit

theorem cellB {w : World} {b i : Nat} {cs : Array Value} {t : TypeId} {v : Value} (h : w.heap[b]? = some (.cells cs t)) (hi : cs[i]? = some v) : w.cell? ⟨b, i, none⟩ = some v := by
  simp [World.cell?, h, hi]
def boxU (x : E) : Obj := .cells #[.int .u64 (x.1 : Int), .int .i64 x.2] 25
theorem cellsU {w : World} {b : Nat} {x : E} (h : w.heap[b]? = some (boxU x)) : w.cell? ⟨b, 0, none⟩ = some (.int .u64 (x.1 : Int)) ∧ w.cell? ⟨b, 1, none⟩ = some (.int .i64 x.2) := ⟨cellB h rfl, cellB h rfl⟩

set_option maxHeartbeats 1000000 in
set_option maxRecDepth 100000 in
theorem ahead_any (a b : E) (w : World) : Calls Try.prog 20 #[val a, val b] w fun e w' => e = .returned (.bool (ahead a b)) ∧ Below w.heap.size w w' := by
  obtain ⟨i, p⟩ := a
  obtain ⟨j, q⟩ := b
  obtain ⟨W, hW⟩ : ∃ W, W = (w.alloc (boxU (i, p))).alloc (boxU (j, q)) := ⟨_, rfl⟩
  have hB1 : Below w.heap.size w (w.alloc (boxU (i, p))) := (Below.refl _ _).alloc (Nat.le_refl _) _
  have hwW : Below w.heap.size w W := by rw [hW]; exact hB1.alloc (by simp) _
  have h0 : W.heap[w.heap.size]? = some (boxU (i, p)) := by
    rw [hW]
    exact (Below.block ((Below.refl _ _).alloc (Nat.le_refl _) _) w.heap.size (by simp)).trans (heap_alloc_new _ _)
  have h1 : W.heap[w.heap.size + 1]? = some (boxU (j, q)) := by
    rw [hW]
    have := heap_alloc_new (w.alloc (boxU (i, p))) (boxU (j, q))
    simpa using this
  have c0 := cellsU h0
  have c1 := cellsU h1
  have HB := Lib.hid hwW
  have HW := Lib.hid hW
  clear hW hwW h0 h1 hB1
  unfold boxU at HW
  unfold val
  by_cases hpq : p = q
  · have hne : (p != q) = false := by simpa using hpq
    have hs : ahead (i, p) (j, q) = decide (i < j) := by
      unfold ahead; subst hpq; simp
    rw [hs]
    clear hs hpq
    obtain ⟨c00, c01⟩ := c0
    obtain ⟨c10, c11⟩ := c1
    simp only at c00 c01 c10 c11
    go_enter Try.func20, Try.ntmps20
    go_upto_region 1 with fail
    rw [← HW.out]
    clear HW
    go_wp2
    go_ret
    exact ⟨rfl, HB.out⟩
  · have hne : (p != q) = true := by simpa using hpq
    have hs : ahead (i, p) (j, q) = decide (q < p) := by
      unfold ahead
      have : (p == q) = false := by simpa using hpq
      simp only [this, Bool.false_and, Bool.or_false]
    rw [hs]
    clear hs hpq
    obtain ⟨c00, c01⟩ := c0
    obtain ⟨c10, c11⟩ := c1
    simp only at c00 c01 c10 c11
    go_enter Try.func20, Try.ntmps20
    go_upto_region 1 with fail
    rw [← HW.out]
    clear HW
    go_wp2
    go_ret
    exact ⟨rfl, HB.out⟩

def mayB (x : E) : Bool := decide (0 ≤ x.2) && decide (x.2 ≤ 9)
set_option maxHeartbeats 1000000 in
set_option maxRecDepth 100000 in
theorem may_any (a : E) (w : World) : Calls Try.prog 25 #[val a] w fun e w' => e = .returned (.bool (mayB a)) ∧ Below w.heap.size w w' := by
  obtain ⟨i, p⟩ := a
  have hb1 : Below w.heap.size w (w.alloc (boxU (i, p))) := (Below.refl _ _).alloc (Nat.le_refl _) _
  have HB := Lib.hid hb1
  clear hb1
  unfold boxU at HB
  unfold val mayB
  simp only
  by_cases h0 : 0 ≤ p
  · have h1 : decide (0 ≤ p) = true := decide_eq_true h0
    rw [h1]
    clear h0
    go_enter Try.func25, Try.ntmps25
    go_wp2
    go_ret
    exact ⟨rfl, HB.out⟩
  · have h1 : decide (0 ≤ p) = false := decide_eq_false h0
    rw [h1]
    clear h0
    go_enter Try.func25, Try.ntmps25
    go_wp2
    go_ret
    exact ⟨rfl, HB.out⟩

set_option maxHeartbeats 1000000 in
set_option maxRecDepth 100000 in
theorem place1_any (x : E) (n : Nat) {c : Nat} (w : World) (hc : w.cell? ⟨c, 0, none⟩ = some (.int .u64 (n : Int))) (hcl : c < w.heap.size) :
    Calls Try.prog 30 #[val x, .pointer (some ⟨c, 0, none⟩)] w fun r w' => r = .returned (.bool (x.1 == n)) ∧ Below w.heap.size w w' := by
  obtain ⟨i, p⟩ := x
  obtain ⟨W, hW⟩ : ∃ W, W = w.alloc (boxU (i, p)) := ⟨_, rfl⟩
  have hwW : Below w.heap.size w W := by rw [hW]; exact (Below.refl _ _).alloc (Nat.le_refl _) _
  have hb : W.heap[w.heap.size]? = some (boxU (i, p)) := by rw [hW]; exact heap_alloc_new _ _
  obtain ⟨b0, b1⟩ := cellsU hb
  have c0 := (hwW.cell (p := ⟨c, 0, none⟩) hcl).trans hc
  have HB := Lib.hid hwW
  have HW := Lib.hid hW
  have HE : Hid (((i : Int) == (n : Int)) = (i == n)) := Lib.hid (by
    rw [Bool.eq_iff_iff, beq_iff_eq, beq_iff_eq]; omega)
  unfold boxU at HW
  unfold val
  simp only at b0 b1 ⊢
  clear hc hW hb hwW
  go_enter Try.func30, Try.ntmps30
  go_upto_region 1 with fail
  rw [← HW.out]
  clear HW
  go_wp2
  go_ret
  exact ⟨by rw [HE.out]; rfl, HB.out⟩
theorem enters_place (args : Array Value) (w : World) : (callFunc 30 args).run Try.prog w = .ok (.enter 30 args) w := by kernel_rfl

/-- Where the first such one stands; -1: nowhere. -/
def idxI (q : E → Bool) (t : List E) : Int := match t.findIdx? q with
  | none => -1
  | some k => (k : Int)
theorem idxI_none {q : E → Bool} {t : List E} (h : ∀ e ∈ t, q e = false) : idxI q t = -1 := by
  unfold idxI
  rw [List.findIdx?_eq_none_iff.2 h]
theorem idxI_some {q : E → Bool} {t : List E} {k : Nat} {e : E} (hk : t[k]? = some e) (he : q e = true) (hno : ∀ i x, i < k → t[i]? = some x → q x = false) : idxI q t = (k : Int) := by
  unfold idxI
  obtain ⟨hlt, rfl⟩ := List.getElem?_eq_some_iff.1 hk
  rw [List.findIdx?_eq_some_iff_getElem.2 ⟨hlt, he, fun i hi => by have := hno i t[i] hi (List.getElem?_eq_getElem _); rw [this]; decide⟩]

set_option maxHeartbeats 2000000 in
set_option maxRecDepth 100000 in
theorem indexU_any (q : E → Bool) (f : FuncId) (cap : Array Value) (hf : ∀ (args : Array Value) (w : World), (callFunc f args).run Try.prog w = .ok (.enter f args) w) (v : Value) (t : List E) (w : World) (hv : Row w v t)
    (hp : ∀ wr e, Below w.heap.size w wr → Fair e → Calls Try.prog f (#[val e] ++ cap) wr fun r w' => r = .returned (.bool (q e)) ∧ Below wr.heap.size wr w') :
    Calls Try.prog 29 #[v, .func (.func f) #[] cap] w fun r w' => r = .returned (.int .i64 (idxI q t)) ∧ Below w.heap.size w w' := by
  have hln := hv.len
  obtain ⟨a, vc, rfl, _, _⟩ := hv.slice
  have HV := Lib.hid hv
  have HP := Lib.hid hp
  clear hv hp
  go_enter Try.func29, Try.ntmps29
  go_wp2
  go_loopw [8] (fun i wr => ∃ k : Nat, k ≤ t.length ∧ i = .int .i64 k ∧ (∀ i x, i < k → t[i]? = some x → q x = false) ∧ Below w.heap.size w wr) (fun i _ => t.length - (intOf i).toNat)
  case atStart => exact ⟨0, Nat.zero_le _, rfl, fun i _ hi => absurd hi (Nat.not_lt_zero i), Below.refl _ _⟩
  case round =>
    obtain ⟨k, hk, rfl, hno, hb⟩ := hrel
    have HNo := Lib.hid hno
    clear hno
    by_cases hlt : k < t.length
    · have hltz : (k : Int) < (t.length : Int) := by omega
      have hk0 : (0 : Int) ≤ (k : Int) := by omega
      obtain ⟨e, he⟩ : ∃ e, t[k]? = some e := ⟨_, List.getElem?_eq_getElem hlt⟩
      obtain ⟨g, o, rfl, hg, hcell⟩ := HV.out.cells hlt
      obtain ⟨hfe, p0, p1⟩ := hcell.below hg hb k e he
      have HC := Lib.hid (HP.out wr e hb hfe)
      obtain ⟨r, hr⟩ : ∃ r, q e = r := ⟨_, rfl⟩
      rw [hr] at HC
      have HE := Lib.hid he
      have HR := Lib.hid hr
      clear he hr hcell hfe
      obtain ⟨i, p⟩ := e
      unfold val at HC
      simp only at HC p0 p1
      cases r with
      | false =>
        go_wp2_with fail
        (with_reducible refine HC.out.mono ?_)
        rintro _ wq ⟨rfl, hbq⟩
        clear HC p0 p1
        go_wp2
        go_roundw
        case rel =>
          refine ⟨k + 1, by omega, by go_num, fun i x hi hx => ?_, hb.trans (hbq.mono hb.size)⟩
          by_cases hik : i < k
          · exact HNo.out i x hik hx
          · obtain rfl : i = k := by omega
            rw [HE.out] at hx; cases hx; exact HR.out
        case measure => simp [intOf]; omega
      | true =>
        go_wp2_with fail
        (with_reducible refine HC.out.mono ?_)
        rintro _ wq ⟨rfl, hbq⟩
        clear HC p0 p1
        have HI := Lib.hid (idxI_some HE.out HR.out HNo.out)
        go_wp2
        go_ret
        exact ⟨by rw [HI.out]; rfl, hb.trans (hbq.mono hb.size)⟩
    · have hltz : ¬ (k : Int) < (t.length : Int) := by omega
      have HI : Hid (idxI q t = -1) := Lib.hid (idxI_none fun e he => by
        obtain ⟨i, hi⟩ := List.mem_iff_getElem?.1 he
        exact HNo.out i e (by have := (List.getElem?_eq_some_iff.1 hi).1; omega) hi)
      go_wp2
      go_ret
      exact ⟨by rw [HI.out]; rfl, hb⟩

theorem idx_place (t : List E) (n : Nat) : idxI (fun e => e.1 == n) t = placeL t n := by
  unfold placeL
  cases h : has t n
  · rw [idxI_none fun e he => by simpa using has_not.1 h e he]; rfl
  · rw [if_pos rfl]
    unfold idxI placeN
    have h' : t.any (fun x => x.1 == n) = true := h
    rw [List.any_eq_true] at h'
    obtain ⟨x, hx, hx'⟩ := h'
    have hlt : t.findIdx (fun x => x.1 == n) < t.length := List.findIdx_lt_length_of_exists ⟨x, hx, hx'⟩
    rw [List.findIdx?_eq_some_iff_findIdx_eq.2 ⟨hlt, rfl⟩]
set_option maxHeartbeats 1000000 in
set_option maxRecDepth 100000 in
theorem place_any (v : Value) (t : List E) (n : Nat) (w : World) (hv : Row w v t) :
    Calls Try.prog 16 #[v, .int .u64 (n : Int)] w fun r w' => r = .returned (.int .i64 (placeL t n)) ∧ Below w.heap.size w w' := by
  obtain ⟨W, hW⟩ : ∃ W, W = w.alloc (.cells #[.int .u64 (n : Int)] 23) := ⟨_, rfl⟩
  have hwW : Below w.heap.size w W := by rw [hW]; exact (Below.refl _ _).alloc (Nat.le_refl _) _
  have hc : W.cell? ⟨w.heap.size, 0, none⟩ = some (.int .u64 (n : Int)) := by rw [hW]; exact cellB (heap_alloc_new _ _) rfl
  have hcl : w.heap.size < W.heap.size := by rw [hW]; simp
  have HI := Lib.hid (indexU_any (fun e => e.1 == n) _ #[.pointer (some ⟨w.heap.size, 0, none⟩)] enters_place v t W (hv.below hwW) fun wr e hb _ => place1_any e n wr ((hb.cell (p := ⟨w.heap.size, 0, none⟩) hcl).trans hc) (by have := hb.size; omega))
  have HP := Lib.hid (idx_place t n)
  obtain ⟨a, vc, rfl, _, _⟩ := hv.slice
  have HB := Lib.hid hwW
  have HW := Lib.hid hW
  clear hv hwW hW hc hcl
  go_enter Try.func16, Try.ntmps16
  go_upto_region 1 with fail
  rw [← HW.out]
  clear HW
  go_wp2_with fail
  (with_reducible refine HI.out.mono ?_)
  rintro _ wq ⟨rfl, hbq⟩
  go_wp2
  go_ret
  exact ⟨by rw [← HP.out]; rfl, HB.out.trans (hbq.mono HB.out.size)⟩
end Go.Proofs.Ytimaehaaidjokaa.Queue
