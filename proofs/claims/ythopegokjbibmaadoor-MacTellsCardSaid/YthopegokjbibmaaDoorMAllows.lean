/- What mac.Allows answers of any token, right and round; of memory that was there nothing turns. -/
import Derived.Test.YthopegokjbibmaaDoorMRow
namespace Go.Proofs.YthopegokjbibmaaDoor.Mac
open Go.RowKit Go.Proofs.YthopegokjbibmaaDoor.Sha

set_option maxHeartbeats 1000000 in
set_option maxRecDepth 100000 in
theorem lets_any (c : Cav) (hc : Fair c) (r u : Nat) (hr : r < 18446744073709551616) (w : World) :
    Calls Tryd.prog 41 #[val c, .int .u64 (r : Int), .int .u64 (u : Int)] w fun e w' => e = .returned (.bool (letsB r u c)) ∧ Below w.heap.size w w' := by
  obtain ⟨k, n⟩ := c
  have hb0 : Below w.heap.size w (w.alloc (.cells #[.int .i64 k, .int .u64 (n : Int)] 27)) := (Below.refl _ _).alloc (Nat.le_refl _) _
  have hn : n < 18446744073709551616 := hc.2.2
  by_cases h1 : k = 1
  · subst h1
    have ha : bits .and .u64 (n : Int) (r : Int) = ((n &&& r : Nat) : Int) := u64_and_nat _ _ hn hr
    have HE : Hid (letsB r u (1, n) = decide (n &&& r = r)) := Lib.hid (by simp [letsB])
    obtain ⟨m, hm⟩ : ∃ m, n &&& r = m := ⟨_, rfl⟩
    rw [hm] at ha HE
    clear hm hc
    by_cases hq : m = r
    · subst hq
      unfold val
      go_enter Tryd.func41, Tryd.ntmps41
      go_wp2
      go_ret
      exact ⟨by rw [HE.out]; simp, hb0⟩
    · have hq' : ((m : Int) == (r : Int)) = false := by rw [beq_eq_false_iff_ne]; omega
      have HQ := Lib.hid hq
      clear hq
      unfold val
      go_enter Tryd.func41, Tryd.ntmps41
      go_wp2
      go_ret
      exact ⟨by rw [HE.out]; have := HQ.out; simp [this], hb0⟩
  · have e1 : (k == 1) = false := by simpa using h1
    by_cases h2 : k = 2
    · subst h2
      have HE : Hid (letsB r u (2, n) = decide (u ≤ n)) := Lib.hid (by simp [letsB])
      clear e1 h1 hc
      by_cases hq : u ≤ n
      · have hq' : (u : Int) ≤ (n : Int) := by omega
        have HQ := Lib.hid hq
        clear hq
        unfold val
        go_enter Tryd.func41, Tryd.ntmps41
        go_wp2
        go_ret
        exact ⟨by rw [HE.out]; have := HQ.out; simp [this], hb0⟩
      · have hq' : ¬ (u : Int) ≤ (n : Int) := by omega
        have HQ := Lib.hid hq
        clear hq
        unfold val
        go_enter Tryd.func41, Tryd.ntmps41
        go_wp2
        go_ret
        exact ⟨by rw [HE.out]; have := HQ.out; simp [this], hb0⟩
    · have e2 : (k == 2) = false := by simpa using h2
      have HE : Hid (letsB r u (k, n) = true) := Lib.hid (by simp [letsB, h1, h2])
      clear h1 h2 hc
      unfold val
      go_enter Tryd.func41, Tryd.ntmps41
      go_wp2
      go_ret
      exact ⟨by rw [HE.out]; rfl, hb0⟩
set_option maxHeartbeats 1000000 in
set_option maxRecDepth 100000 in
theorem allows_any (ten : ByteArray) (v : Value) (ls : List Cav) (sig : ByteArray) (r u : Nat) (hr : r < 18446744073709551616) (w : World) (hv : Row w v ls) (hl : ls.length ≤ 9223372036854775807) :
    Calls Tryd.prog 22 #[.agg #[.string ten, v, .string sig], .int .u64 (r : Int), .int .u64 (u : Int)] w fun e w' => e = .returned (.bool (allowsL ls r u)) ∧ Below w.heap.size w w' := by
  obtain ⟨a, cap, rfl, hcap, hm⟩ := hv.slice
  have hb0 : Below w.heap.size w (w.alloc (.cells #[.string ten, .slice a ls.length cap, .string sig] 24)) := (Below.refl _ _).alloc (Nat.le_refl _) _
  have HV := Lib.hid (hv.below hb0)
  clear hv
  go_enter Tryd.func22, Tryd.ntmps22
  go_wp2
  obtain ⟨w0, hw0⟩ : ∃ w0, w.alloc (.cells #[.string ten, .slice a ls.length cap, .string sig] 24) = w0 := ⟨_, rfl⟩
  rw [hw0] at hb0 HV ⊢
  clear hw0
  go_loopw [12] (fun i wr => ∃ k : Nat, k ≤ ls.length ∧ i = .int .i64 k ∧ (ls.drop k).all (letsB r u) = allowsL ls r u ∧ Below w0.heap.size w0 wr) (fun i _ => ls.length - (intOf i).toNat)
  case atStart => exact ⟨0, Nat.zero_le _, rfl, rfl, Below.refl _ _⟩
  case round =>
    obtain ⟨k, hk, rfl, hf, hb⟩ := hrel
    have HF := Lib.hid hf
    clear hf
    by_cases hlt : k < ls.length
    · obtain ⟨g, o, rfl, hg, hcell⟩ := HV.out.cells hlt
      obtain ⟨x, hx⟩ : ∃ x, ls[k]? = some x := ⟨_, List.getElem?_eq_getElem hlt⟩
      obtain ⟨hfx, hc1, hc2⟩ := hcell.below hg hb k x hx
      have hst := Lib.hid (lets_any x hfx r u hr)
      have HX := Lib.hid (all_drop hx (letsB r u))
      clear hx hcell hfx
      have hltz : (k : Int) < (ls.length : Int) := by omega
      have he : Hid (letsB r u x = true) ∨ Hid (letsB r u x = false) := by cases h : letsB r u x; exact .inr (Lib.hid rfl); exact .inl (Lib.hid rfl)
      obtain ⟨x1, x2⟩ := x
      unfold val at hst
      have hb1 : Below w0.heap.size w0 (wr.alloc (.cells #[.int .i64 x1, .int .u64 (x2 : Int)] 27)) := hb.alloc hb.size _
      rcases he with he | he
      · rw [he.out] at hst
        go_wp2_with fail
        with_reducible refine (hst.out _).mono ?_
        rintro e w1 ⟨rfl, b1⟩
        go_wp2
        go_roundw
        case rel => exact ⟨k + 1, by omega, by go_num, by rw [← HF.out, HX.out, he.out]; rfl, hb1.trans (b1.mono hb1.size)⟩
        case measure => simp [intOf]; omega
      · rw [he.out] at hst
        go_wp2_with fail
        with_reducible refine (hst.out _).mono ?_
        rintro e w1 ⟨rfl, b1⟩
        go_wp2
        go_ret
        refine ⟨by rw [← HF.out, HX.out, he.out]; rfl, hb0.trans ((hb1.trans (b1.mono hb1.size)).mono hb0.size)⟩
    · have hltz : ¬ (k : Int) < (ls.length : Int) := by omega
      go_wp2
      go_ret
      refine ⟨?_, hb0.trans (hb.mono hb0.size)⟩
      rw [← HF.out, List.drop_eq_nil_of_le (by omega)]
      rfl
end Go.Proofs.YthopegokjbibmaaDoor.Mac
