/- What the document's own Ahead and Place answer of any entries, any queue; of memory that was there nothing turns. -/
import Derived.Test.YtimaehaaidjokaaURefQ
namespace Go.Proofs.Ytimaehaaidjokaa.Queue
open Go.RowKit

set_option maxHeartbeats 1000000 in
set_option maxRecDepth 100000 in
theorem refAhead_any (a b : E) (w : World) :
    Calls Try.prog 21 #[val a, val b] w fun e w' => e = .returned (.bool (ahead a b)) ∧ Below w.heap.size w w' := by
  obtain ⟨i, p⟩ := a
  obtain ⟨j, q⟩ := b
  have hb : Below w.heap.size w ((w.alloc (.cells #[.int .u64 (i : Int), .int .i64 p] 34)).alloc (.cells #[.int .u64 (j : Int), .int .i64 q] 34)) := ((Below.refl _ _).alloc (Nat.le_refl _) _).alloc (by simp) _
  unfold val
  by_cases h1 : q < p
  · have HE : Hid (ahead (i, p) (j, q) = true) := Lib.hid ((ahead_iff _ _).2 (.inl h1))
    go_enter Try.func21, Try.ntmps21
    go_wp2
    go_ret
    exact ⟨by rw [HE.out]; rfl, hb⟩
  · by_cases h2 : p = q
    · have h2b : (p == q) = true := by simp [h2]
      by_cases h3 : i < j
      · have HE : Hid (ahead (i, p) (j, q) = true) := Lib.hid ((ahead_iff _ _).2 (.inr ⟨h2, h3⟩))
        have h3z : (i : Int) < (j : Int) := by omega
        clear h2
        go_enter Try.func21, Try.ntmps21
        go_wp2
        go_ret
        exact ⟨by rw [HE.out]; rfl, hb⟩
      · have HE : Hid (ahead (i, p) (j, q) = false) := Lib.hid ((ahead_not _ _).2 (by simp only; omega))
        have h3z : ¬ (i : Int) < (j : Int) := by omega
        clear h2
        go_enter Try.func21, Try.ntmps21
        go_wp2
        go_ret
        exact ⟨by rw [HE.out]; rfl, hb⟩
    · have h2b : (p == q) = false := by simp [h2]
      have HE : Hid (ahead (i, p) (j, q) = false) := Lib.hid ((ahead_not _ _).2 (by simp only; omega))
      go_enter Try.func21, Try.ntmps21
      go_wp2
      go_ret
      exact ⟨by rw [HE.out]; rfl, hb⟩

theorem placeL_hit {ls : List E} {k : Nat} {x : E} {i : Nat} (hx : ls[k]? = some x) (hn : ∀ j y, j < k → ls[j]? = some y → y.1 ≠ i) (h : x.1 = i) : placeL ls i = (k : Int) := by
  have hm := List.mem_of_getElem? hx
  unfold placeL
  rw [if_pos (has_iff.2 ⟨x, hm, h⟩)]
  have : placeN ls i = k := by
    unfold placeN
    rw [List.findIdx_eq (List.getElem?_eq_some_iff.1 hx).1]
    obtain ⟨hk, e⟩ := List.getElem?_eq_some_iff.1 hx
    refine ⟨by rw [e]; simpa using h, fun j hj => ?_⟩
    have := hn j _ hj (List.getElem?_eq_getElem (by omega))
    simpa using this
  rw [this]
theorem placeL_miss {ls : List E} {i : Nat} (hn : ∀ j y, j < ls.length → ls[j]? = some y → y.1 ≠ i) : placeL ls i = -1 := by
  refine place_none (has_not.2 fun x hx => ?_)
  obtain ⟨j, hj, e⟩ := List.getElem_of_mem hx
  exact hn j x hj (by rw [← e]; exact List.getElem?_eq_getElem hj)

set_option maxHeartbeats 1000000 in
set_option maxRecDepth 100000 in
theorem refPlace_rows (v : Value) (ls : List E) (i : Nat) (w : World) (hv : Row w v ls) :
    Calls Try.prog 17 #[v, .int .u64 (i : Int)] w fun e w' => e = .returned (.int .i64 (placeL ls i)) ∧ Below w.heap.size w w' := by
  have hl := hv.len
  obtain ⟨ad, cap, rfl, _, _⟩ := hv.slice
  have HV := Lib.hid hv
  clear hv
  go_enter Try.func17, Try.ntmps17
  go_wp2
  go_loopw [5] (fun t wr => ∃ k : Nat, k ≤ ls.length ∧ t = .int .i64 k ∧ (∀ j y, j < k → ls[j]? = some y → y.1 ≠ i) ∧ Below w.heap.size w wr) (fun t _ => ls.length - (intOf t).toNat)
  case atStart => exact ⟨0, Nat.zero_le _, rfl, fun j y hj => absurd hj (by omega), Below.refl _ _⟩
  case round =>
    obtain ⟨k, hk, rfl, hn, hb⟩ := hrel
    have HN := Lib.hid hn
    clear hn
    by_cases hlt : k < ls.length
    · have hltz : (k : Int) < (ls.length : Int) := by omega
      have hk0 : (0 : Int) ≤ (k : Int) := by omega
      obtain ⟨g, o, rfl, hg, hc⟩ := HV.out.cells hlt
      obtain ⟨x, hx⟩ : ∃ x, ls[k]? = some x := ⟨_, List.getElem?_eq_getElem hlt⟩
      obtain ⟨_, c1, _⟩ := hc.below hg hb k x hx
      have HX := Lib.hid hx
      clear hx hc
      obtain ⟨x1, x2⟩ := x
      simp only at c1
      by_cases h : x1 = i
      · have hq : ((x1 : Int) == (i : Int)) = true := by rw [h]; simp
        have HE : Hid (placeL ls i = (k : Int)) := Lib.hid (placeL_hit HX.out HN.out h)
        clear h
        go_wp2
        go_ret
        exact ⟨by rw [HE.out]; rfl, hb⟩
      · have hq : ((x1 : Int) == (i : Int)) = false := by rw [beq_eq_false_iff_ne]; omega
        have HN2 : Hid (∀ j y, j < k + 1 → ls[j]? = some y → y.1 ≠ i) := Lib.hid (fun j y hj hy => by
          by_cases hjk : j = k
          · subst hjk; rw [HX.out] at hy; cases hy; exact h
          · exact HN.out j y (by omega) hy)
        clear h
        go_wp2
        go_roundw
        case rel => exact ⟨k + 1, by omega, by go_num, HN2.out, hb⟩
        case measure => simp [intOf]; omega
    · obtain rfl : k = ls.length := by omega
      have HE : Hid (placeL ls i = -1) := Lib.hid (placeL_miss HN.out)
      go_wp2
      go_ret
      exact ⟨by rw [HE.out]; rfl, hb⟩
end Go.Proofs.Ytimaehaaidjokaa.Queue
