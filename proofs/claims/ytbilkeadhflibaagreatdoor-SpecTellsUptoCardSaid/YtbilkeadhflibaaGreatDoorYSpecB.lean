/- What the document's own Check answers of any job (chapter 11); of memory that was there nothing turns. -/
import Derived.Test.YtbilkeadhflibaaGreatDoorYSpecA
namespace Go.Proofs.YtbilkeadhflibaaGreatDoor.Job
open Go.RowKit Go.Proofs.YtbilkeadhflibaaGreatDoor.Wire Go.Proofs.YtbilkeadhflibaaGreatDoor.Vec Go.Proofs.YtbilkeadhflibaaGreatDoor.Sel

/-- Four amounts of the document's. -/
def boxR4 (a b c d : Int) : Obj := .cells #[.int .u64 a, .int .u64 b, .int .u64 c, .int .u64 d] 30
/-- The first of these that is not so. -/
def wantP (u c rs t : Bool) : Int := if u = false then 6 else if c = false then 1 else if rs = false then 2 else if t = false then 5 else 0
set_option maxHeartbeats 4000000 in
set_option maxRecDepth 100000 in
theorem refCheck9 (p : ByteArray) (a0 a1 a2 a3 n m k : Int) (sa : Option Addr) (sn sc : Nat) (ts : List Tm) (ps : List (List UInt8)) (rs su : Bool) (r r0 r1 r2 r3 : Int) (w : World) (hrow : TRow w (.slice sa sn sc) ts)
    (HTo : Hid (∀ W, Calls Tryz.prog 12 #[val9 p a0 a1 a2 a3 n m k (.slice sa sn sc)] W fun e w' => e = .returned (.tuple #[.agg #[.int .u64 r0, .int .u64 r1, .int .u64 r2, .int .u64 r3], .bool su]) ∧ Below W.heap.size W w'))
    (HPa : Hid (∀ W, Calls Tryz.prog 45 #[.string p] W (Word.Gives ps W)))
    (HRi : Hid (∀ W, TRow W (.slice sa sn sc) ts → Calls Tryz.prog 46 #[.slice sa sn sc] W fun e w' => e = .returned (.bool rs) ∧ Below W.heap.size W w'))
    (hr : Hid (r = wantP (decide (ps ≠ [])) (inB n m k) rs su)) :
    Calls Tryz.prog 20 #[val9 p a0 a1 a2 a3 n m k (.slice sa sn sc)] w fun e w' => e = .returned (.int .i64 r) ∧ Below w.heap.size w w' := by
  have HRow := Lib.hid hrow
  clear hrow
  unfold val9 at HTo ⊢
  go_enter Tryz.func20, Tryz.ntmps20
  go_upto_region 1 with fail
  obtain ⟨T, hTe⟩ : ∃ T, T = w.heap.size := ⟨_, rfl⟩
  have hx := heap_alloc_new w (box9R p a0 a1 a2 a3 n m k (.slice sa sn sc))
  have b0 := grew w (box9R p a0 a1 a2 a3 n m k (.slice sa sn sc))
  rw [← hTe] at hx ⊢
  unfold box9R at hx b0
  generalize w.alloc _ = w0 at hx b0 ⊢
  have HX0 := Lib.hid hx
  clear hx hTe
  obtain ⟨⟨c0, c1, c2, c3, c4, c5, c6, c7, c8⟩, _⟩ := cells9R HX0.out
  go_wp2_with fail
  with_reducible refine (HTo.out _).mono ?_
  rintro e w2 ⟨rfl, k2⟩
  clear c0 c1 c2 c3 c4 c5 c6 c7 c8
  go_upto_region 2 with fail
  have k3 := grows k2 (grew w2 (boxR4 r0 r1 r2 r3))
  unfold boxR4 at k3
  have b3 := grows b0 k3
  generalize w2.alloc _ = w3 at k3 b3 ⊢
  have HX3 := Lib.hid ((k3.block _ (Array.getElem?_eq_some_iff.1 HX0.out).1).trans HX0.out)
  have HR3 := Lib.hid (HRow.out.below b3)
  have HB3 := Lib.hid b3
  clear b0 k2 k3 b3 HX0 HTo
  obtain ⟨⟨c0, c1, c2, c3, c4, c5, c6, c7, c8⟩, _⟩ := cells9R HX3.out
  go_wp2_with fail
  with_reducible refine (HPa.out _).mono ?_
  rintro e w4 ⟨v, rfl, hv, k4⟩
  obtain ⟨va, vc, rfl⟩ := Holds.len hv
  have HX4 := Lib.hid ((k4.block _ (Array.getElem?_eq_some_iff.1 HX3.out).1).trans HX3.out)
  have HR4 := Lib.hid (HR3.out.below k4)
  have HB4 := Lib.hid (grows HB3.out k4)
  clear c0 c1 c2 c3 c4 c5 c6 c7 c8 hv k4 HX3 HR3 HB3
  obtain ⟨⟨c0, c1, c2, c3, c4, c5, c6, c7, c8⟩, _⟩ := cells9R HX4.out
  by_cases hps : ps = []
  · subst hps
    have hr6 : r = 6 := by rw [hr.out]; rfl
    clear hr
    have hz : ((([] : List (List UInt8)).length : Int) == 0) = true := rfl
    go_wp2
    go_ret
    exact ⟨by rw [hr6]; rfl, HB4.out⟩
  · have hl : ps.length ≠ 0 := fun h => hps (List.length_eq_zero_iff.1 h)
    have hz : ((ps.length : Int) == 0) = false := by rw [beq_eq_false_iff_ne]; omega
    have Hr : Hid (r = wantP true (inB n m k) rs su) := Lib.hid (by rw [hr.out, decide_eq_true hps])
    have six : n < 1 ∨ (¬ n < 1 ∧ 8 < n) ∨ (¬ n < 1 ∧ ¬ 8 < n ∧ m < 0) ∨ (¬ n < 1 ∧ ¬ 8 < n ∧ ¬ m < 0 ∧ 9 < m) ∨ (¬ n < 1 ∧ ¬ 8 < n ∧ ¬ m < 0 ∧ ¬ 9 < m ∧ k < 1) ∨ (¬ n < 1 ∧ ¬ 8 < n ∧ ¬ m < 0 ∧ ¬ 9 < m ∧ ¬ k < 1 ∧ 100 < k) ∨ (¬ n < 1 ∧ ¬ 8 < n ∧ ¬ m < 0 ∧ ¬ 9 < m ∧ ¬ k < 1 ∧ ¬ 100 < k) := by omega
    have no : ¬ (1 ≤ n ∧ n ≤ 8 ∧ 0 ≤ m ∧ m ≤ 9 ∧ 1 ≤ k ∧ k ≤ 100) → r = 1 := fun h => by
      rw [Hr.out]
      unfold inB
      rw [decide_eq_false h]
      rfl
    have No := Lib.hid no
    clear no hps hl hr
    rcases six with g1 | six
    · have hr1 : r = 1 := No.out (by omega)
      clear No Hr
      go_wp2
      go_ret
      exact ⟨by rw [hr1]; rfl, HB4.out⟩
    rcases six with ⟨g1, g2⟩ | six
    · have hr1 : r = 1 := No.out (by omega)
      clear No Hr
      go_wp2
      go_ret
      exact ⟨by rw [hr1]; rfl, HB4.out⟩
    rcases six with ⟨g1, g2, g3⟩ | six
    · have hr1 : r = 1 := No.out (by omega)
      clear No Hr
      go_wp2
      go_ret
      exact ⟨by rw [hr1]; rfl, HB4.out⟩
    rcases six with ⟨g1, g2, g3, g4⟩ | six
    · have hr1 : r = 1 := No.out (by omega)
      clear No Hr
      go_wp2
      go_ret
      exact ⟨by rw [hr1]; rfl, HB4.out⟩
    rcases six with ⟨g1, g2, g3, g4, g5⟩ | six
    · have hr1 : r = 1 := No.out (by omega)
      clear No Hr
      go_wp2
      go_ret
      exact ⟨by rw [hr1]; rfl, HB4.out⟩
    rcases six with ⟨g1, g2, g3, g4, g5, g6⟩ | six
    · have hr1 : r = 1 := No.out (by omega)
      clear No Hr
      go_wp2
      go_ret
      exact ⟨by rw [hr1]; rfl, HB4.out⟩
    obtain ⟨g1, g2, g3, g4, g5, g6⟩ := six
    have hb : inB n m k = true := decide_eq_true (by omega)
    have Hr : Hid (r = wantP true true rs su) := Lib.hid (by rw [Hr.out, hb])
    clear No hb
    cases rs with
    | false =>
      have hr2 : r = 2 := by rw [Hr.out]; rfl
      clear Hr
      go_wp2_with fail
      with_reducible refine (HRi.out _ HR4.out).mono ?_
      rintro e w5 ⟨rfl, k5⟩
      go_wp2
      go_ret
      exact ⟨by rw [hr2]; rfl, grows HB4.out k5⟩
    | true =>
      cases su with
      | false =>
        have hr5 : r = 5 := by rw [Hr.out]; rfl
        clear Hr
        go_wp2_with fail
        with_reducible refine (HRi.out _ HR4.out).mono ?_
        rintro e w5 ⟨rfl, k5⟩
        go_wp2
        go_ret
        exact ⟨by rw [hr5]; rfl, grows HB4.out k5⟩
      | true =>
        have hr0 : r = 0 := by rw [Hr.out]; rfl
        clear Hr
        go_wp2_with fail
        with_reducible refine (HRi.out _ HR4.out).mono ?_
        rintro e w5 ⟨rfl, k5⟩
        go_wp2
        go_ret
        exact ⟨by rw [hr0]; rfl, grows HB4.out k5⟩
theorem want_checkP (x : Jb) : checkJ x = wantP (decide (Word.parts (path x).data.toList ≠ [])) (inB (cou x) (pri x) (tik x)) (rightS (terms x)) (totalJ x).isSome := by
  unfold checkJ wantP
  by_cases h : Word.parts (path x).data.toList = []
  · rw [if_pos h, decide_eq_false (fun hn => hn h)]
    rfl
  · rw [if_neg h, decide_eq_true h]
    rfl
theorem refCheck_any (x : Jb) (s : Value) (w : World) (hf : FairJ x) (hs : TRow w s (terms x)) :
    Calls Tryz.prog 20 #[valJ x s] w fun e w' => e = .returned (.int .i64 (checkJ x)) ∧ Below w.heap.size w w' := by
  obtain ⟨sa, sc, rfl, _, _⟩ := hs.slice
  exact refCheck9 (path x) (am (dem x) 0) (am (dem x) 1) (am (dem x) 2) (am (dem x) 3) (cou x) (pri x) (tik x) sa (terms x).length sc (terms x) (Word.parts (path x).data.toList) (rightS (terms x)) (totalJ x).isSome (checkJ x) _ _ _ _ w hs
    (Lib.hid fun W => refTotal_any x hf.dem _ W) (Lib.hid fun W => Word.refParts_any (path x) (by have := hf.path; omega) W) (Lib.hid fun W h => refRightS_any _ _ W h hf.terms) (Lib.hid (want_checkP x))
end Go.Proofs.YtbilkeadhflibaaGreatDoor.Job
