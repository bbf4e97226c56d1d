/- What the statements' own same answers: are two lists of labels the same? Of memory that was there nothing turns. -/
import Derived.Test.YtpkaejacnblplaaLShow
import Derived.Test.YtpkaejacnblplaaQuiet
namespace Go.Proofs.Ytpkaejacnblplaa.Label
open Go.RowKit Go.Proofs.Ytpkaejacnblplaa.Word

theorem Row.slice {w : World} {v : Value} {ls : List Pr} (h : Row w v ls) : ∃ a cap, v = .slice a ls.length cap := by
  rcases h with ⟨rfl, a, cap, rfl, _⟩ | ⟨_, g, o, cap, rfl, _⟩
  · exact ⟨_, _, rfl⟩
  · exact ⟨_, _, rfl⟩
theorem Row.cells {w : World} {a : Option Addr} {cap k n : Nat} {ls : List Pr} (h : Row w (.slice a n cap) ls) (hk : k < ls.length) : ∃ g o, a = some ⟨g, o, none⟩ ∧ g < w.heap.size ∧ Cells w g o ls := by
  rcases h with ⟨rfl, _⟩ | ⟨_, g, o, cap', hsl, hg, _, _, hcell⟩
  · simp at hk
  · injection hsl with h1 _ _
    exact ⟨g, o, h1, hg, hcell⟩

set_option maxHeartbeats 2000000 in
set_option maxRecDepth 100000 in
theorem same_rows (u v : Value) (a b : List Pr) (w : World) (hu : Row w u a) (hv : Row w v b) (ha : a.length ≤ 4611686018427387904) :
    Calls Try.prog 25 #[u, v] w fun e w' => e = .returned (.bool (decide (a = b))) ∧ Below w.heap.size w w' := by
  obtain ⟨x, cx, rfl⟩ := hu.slice
  obtain ⟨y, cy, rfl⟩ := hv.slice
  have HU := Lib.hid hu
  have HV := Lib.hid hv
  clear hu hv
  by_cases hl : a.length = b.length
  · have hln : ((a.length : Int) == (b.length : Int)) = true := by rw [hl]; simp
    have hlm : ((a.length : Int) != (b.length : Int)) = false := by rw [hl]; simp
    have HL := Lib.hid hl
    clear hl
    go_enter Try.func25, Try.ntmps25
    go_wp2
    go_loopw [5] (fun i wr => ∃ k : Nat, k ≤ a.length ∧ i = .int .i64 k ∧ a.take k = b.take k ∧ Below w.heap.size w wr) (fun i _ => a.length - (intOf i).toNat)
    case atStart => exact ⟨0, Nat.zero_le _, rfl, by simp, Below.refl _ _⟩
    case round =>
      obtain ⟨k, hk, rfl, ht, hb⟩ := hrel
      have HT := Lib.hid ht
      clear ht
      by_cases hlt : k < a.length
      · have hltz : (k : Int) < (a.length : Int) := by omega
        have hltb : k < b.length := by have := HL.out; omega
        have hltw : (k : Int) < (b.length : Int) := by omega
        have hk0 : (0 : Int) ≤ (k : Int) := by omega
        obtain ⟨g, o, rfl, hg, hc⟩ := HU.out.cells hlt
        obtain ⟨g', o', rfl, hg', hc'⟩ := HV.out.cells hltb
        obtain ⟨x, hx⟩ : ∃ x, a[k]? = some x := ⟨_, List.getElem?_eq_getElem hlt⟩
        obtain ⟨y, hy⟩ : ∃ y, b[k]? = some y := ⟨_, List.getElem?_eq_getElem hltb⟩
        obtain ⟨c1, c2⟩ := hc.below hg hb k x hx
        obtain ⟨d1, d2⟩ := hc'.below hg' hb k y hy
        have HA : Hid (a.take (k + 1) = a.take k ++ [x]) := Lib.hid (by rw [List.take_add_one, hx]; rfl)
        have HB : Hid (b.take (k + 1) = b.take k ++ [y]) := Lib.hid (by rw [List.take_add_one, hy]; rfl)
        have HX := Lib.hid hx
        have HY := Lib.hid hy
        obtain ⟨q, hq⟩ : ∃ q, eqP x y = q := ⟨_, rfl⟩
        have hne : ∀ w, (binOp .neq 48 (.agg #[.string x.1, .string x.2]) (.agg #[.string y.1, .string y.2])).run Try.prog w = .ok (.bool (!q)) w := fun w => by rw [← hq]; exact neq_at.1 x y w
        have HQ := Lib.hid hq
        clear hx hy hq hc hc'
        obtain ⟨x1, x2⟩ := x
        obtain ⟨y1, y2⟩ := y
        cases q with
        | true =>
          go_wp2
          go_quiet (fail)
          go_wp2
          go_roundw
          case rel => exact ⟨k + 1, by omega, by go_num, by rw [HA.out, HB.out, HT.out, (eqP_iff _ _).1 HQ.out], below_drewN hb _⟩
          case measure => simp [intOf]; omega
        | false =>
          have HE : Hid (decide (a = b) = false) := Lib.hid (decide_eq_false fun h => by
            have h1 := HX.out
            rw [h, HY.out] at h1
            have h2 := (eqP_iff (x1, x2) (y1, y2)).2 (by simpa using h1.symm)
            rw [HQ.out] at h2
            cases h2)
          go_wp2
          go_quiet (fail)
          go_wp2
          go_ret
          exact ⟨by rw [HE.out]; rfl, below_drewN hb _⟩
      · have hltz : ¬ (k : Int) < (a.length : Int) := by omega
        have HE : Hid (decide (a = b) = true) := Lib.hid (decide_eq_true (by
          have h1 := HT.out
          rw [List.take_of_length_le (by omega), List.take_of_length_le (by have := HL.out; omega)] at h1
          exact h1))
        go_wp2
        go_ret
        exact ⟨by rw [HE.out]; rfl, hb⟩
  · have HE : Hid (decide (a = b) = false) := Lib.hid (decide_eq_false (fun h => hl (by rw [h])))
    have hln : ((a.length : Int) == (b.length : Int)) = false := by rw [beq_eq_false_iff_ne]; omega
    have hlm : ((a.length : Int) != (b.length : Int)) = true := by rw [bne_iff_ne]; omega
    clear hl
    go_enter Try.func25, Try.ntmps25
    go_wp2
    go_ret
    exact ⟨by rw [HE.out]; rfl, Below.refl _ _⟩
end Go.Proofs.Ytpkaejacnblplaa.Label
