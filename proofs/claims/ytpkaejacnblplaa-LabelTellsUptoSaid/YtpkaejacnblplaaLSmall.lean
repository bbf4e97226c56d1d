/- What the small functions that label hands to Go's slices answer: is a pair without a name, which of two keys is less, are they the same; of memory that was there nothing turns. -/
import Derived.Test.YtpkaejacnblplaaLRow
namespace Go.Proofs.Ytpkaejacnblplaa.Label
open Go.RowKit Go.Proofs.Ytpkaejacnblplaa.Word

/-- Is the key, or the value, no name? -/
def lacks (x : Pr) : Bool := !right x.1.data.toList || !right x.2.data.toList

set_option maxHeartbeats 1000000 in
set_option maxRecDepth 100000 in
theorem lacks_any (x : Pr) (w : World) :
    Calls Try.prog 38 #[.agg #[.string x.1, .string x.2]] w fun e w' => e = .returned (.bool (lacks x)) ∧ Below w.heap.size w w' := by
  obtain ⟨x1, x2⟩ := x
  have HE : Hid (lacks (x1, x2) = (!right x1.data.toList || !right x2.data.toList)) := rfl
  have hb0 : Below w.heap.size w (w.alloc (.cells #[.string x1, .string x2] 48)) := (Below.refl _ _).alloc (Nat.le_refl _) _
  have hl : Hid (right x1.data.toList = true) ∨ Hid (right x1.data.toList = false) := by cases h : right x1.data.toList; exact .inr (Lib.hid rfl); exact .inl (Lib.hid rfl)
  rcases hl with hl | hl
  · go_enter Try.func38, Try.ntmps38
    go_wp2_with fail
    refine (right_any _ _).mono ?_
    rintro e w1 ⟨rfl, hb1⟩
    rw [hl.out]
    have hc : w1.cell? ⟨w.heap.size, 1, none⟩ = some (.string x2) := by
      rw [hb1.cell (p := ⟨w.heap.size, 1, none⟩) (by simp [go_sem])]
      simp [go_sem]
    have hb := hb0.trans (hb1.mono hb0.size)
    go_wp2_with fail
    refine (right_any _ _).mono ?_
    rintro e w2 ⟨rfl, hb2⟩
    have hb' := hb.trans (hb2.mono hb.size)
    go_wp2
    go_ret
    exact ⟨by rw [HE.out, hl.out]; simp, hb'⟩
  · go_enter Try.func38, Try.ntmps38
    go_wp2_with fail
    refine (right_any _ _).mono ?_
    rintro e w1 ⟨rfl, hb1⟩
    rw [hl.out]
    have hb := hb0.trans (hb1.mono hb0.size)
    go_wp2
    go_ret
    exact ⟨by rw [HE.out, hl.out]; simp, hb⟩

/-- Which of two keys is less: by their bytes. -/
def less (x y : ByteArray) : Bool := Op.bytesLess x.toList y.toList
def cmpK (x y : ByteArray) : Int := if less x y = true then -1 else if (x.toList == y.toList) = true then 0 else 1

set_option maxHeartbeats 1000000 in
theorem nan_any (x : ByteArray) (w : World) : Calls Try.prog 72 #[.string x] w fun e w' => e = .returned (.bool false) ∧ w = w' := by
  have he : (x.toList == x.toList) = true := by simp
  go_enter Try.func72, Try.ntmps72
  go_wp2
  go_ret
  exact ⟨rfl, rfl⟩

set_option maxHeartbeats 1000000 in
theorem cmp_any (x y : ByteArray) (w : World) : Calls Try.prog 60 #[.string x, .string y] w fun e w' => e = .returned (.int .i64 (cmpK x y)) ∧ w = w' := by
  cases h1 : Op.bytesLess x.toList y.toList with
  | true =>
    have HE : Hid (cmpK x y = -1) := by unfold cmpK less; rw [if_pos h1]; exact Lib.hid rfl
    go_enter Try.func60, Try.ntmps60
    go_wp2_with (go_at_call 72; refine (nan_any _ _).mono ?_; rintro e w' ⟨rfl, rfl⟩)
    go_ret
    exact ⟨by rw [HE.out]; rfl, rfl⟩
  | false =>
    cases h2 : (x.toList == y.toList) with
    | true =>
      have HE : Hid (cmpK x y = 0) := by unfold cmpK less; rw [if_neg (by rw [h1]; simp), if_pos h2]; exact Lib.hid rfl
      go_enter Try.func60, Try.ntmps60
      go_wp2_with (go_at_call 72; refine (nan_any _ _).mono ?_; rintro e w' ⟨rfl, rfl⟩)
      go_ret
      exact ⟨by rw [HE.out]; rfl, rfl⟩
    | false =>
      have HE : Hid (cmpK x y = 1) := by unfold cmpK less; rw [if_neg (by rw [h1]; simp), if_neg (by rw [h2]; simp)]; exact Lib.hid rfl
      go_enter Try.func60, Try.ntmps60
      go_wp2_with (go_at_call 72; refine (nan_any _ _).mono ?_; rintro e w' ⟨rfl, rfl⟩)
      go_ret
      exact ⟨by rw [HE.out]; rfl, rfl⟩

/-- Two blocks more, in which a closure laid the pairs that it was handed. -/
def boxes (w : World) (x y : Pr) : World := (w.alloc (.cells #[.string x.1, .string x.2] 48)).alloc (.cells #[.string y.1, .string y.2] 48)
theorem below_boxes (w : World) (x y : Pr) : Below w.heap.size w (boxes w x y) := ((Below.refl _ _).alloc (Nat.le_refl _) _).alloc (by simp) _

set_option maxHeartbeats 1000000 in
set_option maxRecDepth 100000 in
theorem order_any (x y : Pr) (w : World) :
    Calls Try.prog 59 #[.agg #[.string x.1, .string x.2], .agg #[.string y.1, .string y.2]] w fun e w' => e = .returned (.int .i64 (cmpK x.1 y.1)) ∧ w' = boxes w x y := by
  obtain ⟨x1, x2⟩ := x
  obtain ⟨y1, y2⟩ := y
  go_enter Try.func59, Try.ntmps59
  go_wp2_with (go_at_call 60; refine (cmp_any _ _ _).mono ?_; rintro e w' ⟨rfl, rfl⟩)
  go_ret
  exact ⟨rfl, rfl⟩

set_option maxHeartbeats 1000000 in
set_option maxRecDepth 100000 in
theorem twice_any (x y : Pr) (w : World) :
    Calls Try.prog 62 #[.agg #[.string x.1, .string x.2], .agg #[.string y.1, .string y.2]] w fun e w' => e = .returned (.bool (x.1.toList == y.1.toList)) ∧ w' = boxes w x y := by
  obtain ⟨x1, x2⟩ := x
  obtain ⟨y1, y2⟩ := y
  go_enter Try.func62, Try.ntmps62
  go_wp2
  go_ret
  exact ⟨rfl, rfl⟩
end Go.Proofs.Ytpkaejacnblplaa.Label
