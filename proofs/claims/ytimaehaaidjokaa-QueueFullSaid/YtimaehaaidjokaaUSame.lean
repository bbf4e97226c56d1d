/- What the statements' own same answers of two queues; of memory that was there nothing turns. -/
import Derived.Test.YtimaehaaidjokaaUEq
import Derived.Test.YtimaehaaidjokaaQuiet
namespace Go.Proofs.Ytimaehaaidjokaa.Queue
open Go.RowKit

set_option maxHeartbeats 2000000 in
set_option maxRecDepth 100000 in
theorem same_rows (u v : Value) (a b : List E) (w : World) (hu : Row w u a) (hv : Row w v b) :
    Calls Try.prog 23 #[u, v] w fun e w' => e = .returned (.bool (decide (a = b))) ∧ Below w.heap.size w w' := by
  have ha := hu.len
  obtain ⟨x, cx, rfl, _, _⟩ := hu.slice
  obtain ⟨y, cy, rfl, _, _⟩ := hv.slice
  have HU := Lib.hid hu
  have HV := Lib.hid hv
  clear hu hv
  by_cases hl : a.length = b.length
  · have hln : ((a.length : Int) == (b.length : Int)) = true := by rw [hl]; simp
    have hlm : ((a.length : Int) != (b.length : Int)) = false := by rw [hl]; simp
    have HL := Lib.hid hl
    clear hl
    go_enter Try.func23, Try.ntmps23
    go_wp2
    go_loopw [5] (fun i wr => ∃ k : Nat, k ≤ a.length ∧ i = .int .i64 k ∧ a.take k = b.take k ∧ Below w.heap.size w wr) (fun i _ => a.length - (intOf i).toNat)
    case atStart => exact ⟨0, Nat.zero_le _, rfl, by simp, Below.refl _ _⟩
    case round =>
      obtain ⟨k, hk, rfl, ht, hb⟩ := hrel
      have HT := Lib.hid ht
      clear ht
      by_cases hlt : k < a.length
      · have hltz : (k : Int) < (a.length : Int) := by omega
        have hltb : k < b.length := by have := HL.out; omega
        have hltw : (k : Int) < (b.length : Int) := by omega
        have hk0 : (0 : Int) ≤ (k : Int) := by omega
        obtain ⟨g, o, rfl, hg, hc⟩ := HU.out.cells hlt
        obtain ⟨g', o', rfl, hg', hc'⟩ := HV.out.cells hltb
        obtain ⟨x, hx⟩ : ∃ x, a[k]? = some x := ⟨_, List.getElem?_eq_getElem hlt⟩
        obtain ⟨y, hy⟩ : ∃ y, b[k]? = some y := ⟨_, List.getElem?_eq_getElem hltb⟩
        obtain ⟨_, c1, c2⟩ := hc.below hg hb k x hx
        obtain ⟨_, d1, d2⟩ := hc'.below hg' hb k y hy
        have HA : Hid (a.take (k + 1) = a.take k ++ [x]) := Lib.hid (by rw [List.take_add_one, hx]; rfl)
        have HB : Hid (b.take (k + 1) = b.take k ++ [y]) := Lib.hid (by rw [List.take_add_one, hy]; rfl)
        have HX := Lib.hid hx
        have HY := Lib.hid hy
        obtain ⟨q, hq⟩ : ∃ q, eqE x y = q := ⟨_, rfl⟩
        have hne : ∀ w, (binOp .neq 25 (.agg #[.int .u64 (x.1 : Int), .int .i64 x.2]) (.agg #[.int .u64 (y.1 : Int), .int .i64 y.2])).run Try.prog w = .ok (.bool (!q)) w := fun w => by rw [← hq]; exact neq_e x y w
        have HQ := Lib.hid hq
        clear hx hy hq hc hc'
        obtain ⟨x1, x2⟩ := x
        obtain ⟨y1, y2⟩ := y
        cases q with
        | true =>
          go_wp2
          go_quiet (fail)
          go_wp2
          go_roundw
          case rel => exact ⟨k + 1, by omega, by go_num, by rw [HA.out, HB.out, HT.out, (eqE_iff _ _).1 HQ.out], below_drewN hb _⟩
          case measure => simp [intOf]; omega
        | false =>
          have HE : Hid (decide (a = b) = false) := Lib.hid (decide_eq_false fun h => by
            have h1 := HX.out
            rw [h, HY.out] at h1
            have h2 := (eqE_iff (x1, x2) (y1, y2)).2 (by simpa using h1.symm)
            rw [HQ.out] at h2
            cases h2)
          go_wp2
          go_quiet (fail)
          go_wp2
          go_ret
          exact ⟨by rw [HE.out]; rfl, below_drewN hb _⟩
      · have hltz : ¬ (k : Int) < (a.length : Int) := by omega
        have HE : Hid (decide (a = b) = true) := Lib.hid (decide_eq_true (by
          have h1 := HT.out
          rw [List.take_of_length_le (by omega), List.take_of_length_le (by have := HL.out; omega)] at h1
          exact h1))
        go_wp2
        go_ret
        exact ⟨by rw [HE.out]; rfl, hb⟩
  · have HE : Hid (decide (a = b) = false) := Lib.hid (decide_eq_false (fun h => hl (by rw [h])))
    have hln : ((a.length : Int) == (b.length : Int)) = false := by rw [beq_eq_false_iff_ne]; omega
    have hlm : ((a.length : Int) != (b.length : Int)) = true := by rw [bne_iff_ne]; omega
    clear hl
    go_enter Try.func23, Try.ntmps23
    go_wp2
    go_ret
    exact ⟨by rw [HE.out]; rfl, Below.refl _ _⟩
end Go.Proofs.Ytimaehaaidjokaa.Queue
