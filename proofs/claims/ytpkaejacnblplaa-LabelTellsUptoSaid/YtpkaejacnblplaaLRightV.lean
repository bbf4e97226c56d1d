/- What label.Right answers of any labels: right are at most eight pairs of names whose keys rise; of memory that was there nothing turns. -/
import Derived.Test.YtpkaejacnblplaaLRight
namespace Go.Proofs.Ytpkaejacnblplaa.Label
open Go.RowKit Go.Proofs.Ytpkaejacnblplaa.Word Go.Sort

def risesB : List Pr → Bool
  | x :: y :: r => less x.1 y.1 && risesB (y :: r)
  | _ => true
theorem risesB_iff : ∀ ls : List Pr, risesB ls = true ↔ Rises ls
  | [] => ⟨fun _ j x y hx _ => by simp at hx, fun _ => rfl⟩
  | [a] => ⟨fun _ j x y _ hy => by simp at hy, fun _ => rfl⟩
  | a :: b :: r => by
    rw [risesB, Bool.and_eq_true, risesB_iff (b :: r)]
    constructor
    · rintro ⟨h1, h2⟩ j x y hx hy
      cases j with
      | zero => simp at hx hy; subst hx; subst hy; exact h1
      | succ j => exact h2 j x y (by simpa using hx) (by simpa using hy)
    · intro h
      exact ⟨h 0 a b rfl rfl, fun j x y hx hy => h (j + 1) x y (by simpa using hx) (by simpa using hy)⟩
/-- Right labels: P4.1. -/
def rightL (ls : List Pr) : Bool := decide (ls.length ≤ 8) && (!ls.any lacks && risesB ls)

theorem enters_lacks (args : Array Value) (w : World) : (callFunc 38 args).run Try.prog w = .ok (.enter 38 args) w := by kernel_rfl
theorem pred_lacks (w : World) : PredBelow Try.prog 38 #[] (fun x => .agg (enc x).toArray) lacks w := fun W x hb =>
  (lacks_any x W).mono fun _ _ ⟨he, hb'⟩ => ⟨he, hb.trans (hb'.mono hb.size)⟩

set_option maxHeartbeats 1000000 in
set_option maxRecDepth 100000 in
theorem index_none (a : Option Addr) (c : Nat) (f : Value) (w : World) :
    Calls Try.prog 56 #[.slice a 0 c, f] w fun e w' => e = .returned (.int .i64 (-1)) ∧ w' = w := by
  go_enter Try.func56, Try.ntmps56
  go_wp2
  go_loopw [8] (fun i wr => i = .int .i64 0 ∧ wr = w) (fun _ _ => 0)
  case atStart => exact ⟨rfl, rfl⟩
  case round =>
    obtain ⟨rfl, rfl⟩ := hrel
    go_wp2
    go_ret
    exact ⟨rfl, rfl⟩
set_option maxHeartbeats 1000000 in
set_option maxRecDepth 100000 in
theorem contains_none (a : Option Addr) (c : Nat) (f : Value) (w : World) :
    Calls Try.prog 37 #[.slice a 0 c, f] w fun e w' => e = .returned (.bool false) ∧ w' = w := by
  go_enter Try.func37, Try.ntmps37
  go_wp2_with fail
  refine (index_none a c f w).mono ?_
  rintro e w' ⟨rfl, rfl⟩
  go_wp2
  go_ret
  exact ⟨rfl, rfl⟩
theorem contains_lacks (v : Value) (ls : List Pr) (w : World) (hv : Row w v ls) (hl : ls.length ≤ 4611686018427387904) :
    Calls Try.prog 37 #[v, .func (.func 38) #[] #[]] w fun e w' => e = .returned (.bool (ls.any lacks)) ∧ Below w.heap.size w w' := by
  rcases hv with ⟨rfl, a, cap, rfl, hm⟩ | ⟨hne, g, o, cap, rfl, hg, hcap, hm, hcell⟩
  · refine (contains_none a cap _ w).mono ?_
    rintro e w' ⟨rfl, rfl⟩
    exact ⟨rfl, Below.refl _ _⟩
  · have := AnyQ.slices_ContainsFunc Laid.laysSlH08_f37 2 aggP sizeP enc enc_len lacks 38 #[] enters_lacks g o ls.length cap ls w (pred_lacks w) (Nat.le_refl _) (by omega) hg (cells_q hcell)
    rw [List.take_length] at this
    exact this

set_option maxHeartbeats 1000000 in
set_option maxRecDepth 100000 in
theorem right_rows (v : Value) (ls : List Pr) (w : World) (hv : Row w v ls) (hl : ls.length ≤ 4611686018427387904) :
    Calls Try.prog 18 #[v] w fun e w' => e = .returned (.bool (rightL ls)) ∧ Below w.heap.size w w' := by
  have hs : ∃ a cap, v = .slice a ls.length cap := by
    rcases hv with ⟨rfl, a, cap, rfl, _⟩ | ⟨_, g, o, cap, rfl, _⟩
    · exact ⟨_, _, rfl⟩
    · exact ⟨_, _, rfl⟩
  obtain ⟨a, cap, rfl⟩ := hs
  have HV := Lib.hid hv
  clear hv
  by_cases h8 : ls.length ≤ 8
  · have h8z : (ls.length : Int) ≤ 8 := by omega
    obtain ⟨q, hq⟩ : ∃ q, ls.any lacks = q := ⟨_, rfl⟩
    have HQ := Lib.hid hq
    have HC : Hid (∀ w', Row w' (.slice a ls.length cap) ls → Calls Try.prog 37 #[.slice a ls.length cap, .func (.func 38) #[] #[]] w' fun e w'' => e = .returned (.bool q) ∧ Below w'.heap.size w' w'') := Lib.hid fun w' h => by rw [← hq]; exact contains_lacks _ ls w' h hl
    clear hq
    cases q with
    | true =>
      have HE : Hid (rightL ls = false) := Lib.hid (by unfold rightL; rw [HQ.out]; simp)
      go_enter Try.func18, Try.ntmps18
      go_wp2_with fail
      refine (HC.out _ HV.out).mono ?_
      rintro e w1 ⟨rfl, hb⟩
      go_wp2
      go_ret
      exact ⟨by rw [HE.out]; rfl, hb⟩
    | false =>
      go_enter Try.func18, Try.ntmps18
      go_wp2_with fail
      refine (HC.out _ HV.out).mono ?_
      rintro e w1 ⟨rfl, hb⟩
      have HV1 := Lib.hid (HV.out.below hb)
      have HO := Lib.hid (inOrder_any _ ls w1 HV1.out h8)
      go_wp2_with fail
      refine HO.out.mono ?_
      rintro e w2 ⟨v', rfl, hb2, hor⟩
      have HOR := Lib.hid hor
      have hb' := hb.trans (hb2.mono hb.size)
      have HV2 := Lib.hid (HV1.out.below hb2)
      clear hor hb2 hb
      have HEQ : Hid (Calls Try.prog 39 #[.slice a ls.length cap, v'] w2 fun e w' => (∃ b : Bool, e = .returned (.bool b) ∧ (b = true ↔ Rises ls)) ∧ Below w2.heap.size w2 w') := by
        rcases HOR.out with ⟨ls', hlen, hiff, hrow⟩ | ⟨hnr, a', k, cap', rfl, hk⟩
        · refine (equal_rows _ v' ls ls' w2 HV2.out hrow hl hlen).mono ?_
          rintro e w' ⟨⟨b, rfl, hb⟩, hb'⟩
          exact ⟨⟨b, rfl, hb.trans hiff⟩, hb'⟩
        · refine (equal_lens a a' ls.length k cap cap' w2 (by omega)).mono ?_
          rintro e w' ⟨rfl, rfl⟩
          exact ⟨⟨false, rfl, by simp [hnr]⟩, Below.refl _ _⟩
      go_wp2_with fail
      refine HEQ.out.mono ?_
      rintro e w3 ⟨⟨b, rfl, hbi⟩, hb3⟩
      have HB : Hid (rightL ls = b) := Lib.hid (by
        unfold rightL
        rw [HQ.out, decide_eq_true h8, Bool.not_false, Bool.true_and, Bool.true_and, Bool.eq_iff_iff, risesB_iff]
        exact hbi.symm)
      clear hbi
      go_wp2
      go_ret
      exact ⟨by rw [HB.out]; rfl, hb'.trans (hb3.mono hb'.size)⟩
  · have h8z : ¬ (ls.length : Int) ≤ 8 := by omega
    have HE : Hid (rightL ls = false) := Lib.hid (by unfold rightL; rw [decide_eq_false h8]; rfl)
    clear h8
    go_enter Try.func18, Try.ntmps18
    go_wp2
    go_ret
    exact ⟨by rw [HE.out]; rfl, Below.refl _ _⟩
end Go.Proofs.Ytpkaejacnblplaa.Label
