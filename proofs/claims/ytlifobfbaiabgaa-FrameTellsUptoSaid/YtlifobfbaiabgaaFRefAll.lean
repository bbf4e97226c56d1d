/- What the document's own All answers of any text of up to 2^46 bytes: the same as the program's; of memory that was there nothing turns. -/
import Derived.Test.YtlifobfbaiabgaaFRefNext
import Derived.Test.YtlifobfbaiabgaaFTold
namespace Go.Proofs.Ytlifobfbaiabgaa.Frame
open Go.RowKit Go.Proofs.Ytlifobfbaiabgaa.Texts

set_option maxRecDepth 100000 in
set_option maxHeartbeats 2000000 in
theorem refAll_any (s : ByteArray) (hs : s.size ≤ 70368744177664) (w : World) :
    Calls Try.prog 14 #[.string s] w fun e w' => ∃ v, e = .returned (.tuple #[v, .int .i64 ((allL s.data.toList).2 : Nat)]) ∧ w'.ownsRow w.heap.size 9 1 v (allL s.data.toList).1.length (bodies s (allL s.data.toList).1) ∧ Below w.heap.size w w' := by
  obtain ⟨i0, hi, hz0, hz1, hz2⟩ := info_parts infoS
  have hlen := allL_len s.data.toList
  rw [size_list] at hlen
  have HN := Lib.hid (fun (p : Nat) (hp : p ≤ s.size) (w : World) => refNext_any s (by omega) (p : Nat) (by omega) (by omega) w)
  have HLn := Lib.hid (size_list s)
  obtain ⟨L, hL⟩ : ∃ L, s.data.toList = L := ⟨_, rfl⟩
  rw [hL] at HN HLn hlen ⊢
  clear hL
  go_enter Try.func14, Try.ntmps14
  go_wp2
  go_loopw [4, 5] (fun out at_ wr => ∃ (pre : List (Nat × Nat)) (p f : Nat), at_ = .int .i64 (p : Nat) ∧ p ≤ s.size ∧ s.size < p + f ∧ (pre ++ (allN L f p).1, (allN L f p).2) = allL L ∧ wr.ownsRow w.heap.size 9 1 out pre.length (bodies s pre) ∧ Below w.heap.size w wr) (fun _ at_ _ => s.size + 1 - (intOf at_).toNat)
  case atStart => exact ⟨[], 0, s.size + 1, rfl, Nat.zero_le _, by omega, by unfold allL; rw [HLn.out]; simp, World.ownsRow_nil _ _ _ _, Below.refl _ _⟩
  case round =>
    obtain ⟨pre, p, f, rfl, hp, hf, hall, hown, hb⟩ := hrel
    have HA := Lib.hid hall
    have h1 := HN.out p hp wr
    clear hall
    cases hnx : nextF L (p : Int) with
    | none =>
      have HE := Lib.hid (allN_end hnx HA.out)
      rw [hnx] at h1
      unfold nextR at h1
      have H1 := Lib.hid h1
      have HO := Lib.hid hown
      clear hnx h1 HA hown
      go_wp2_with fail
      refine H1.out.mono ?_
      rintro e w1 ⟨rfl, hb1⟩
      have hown1 := own_kept_below HO.out hb1
      go_wp2
      go_ret2
      rw [HE.out]
      exact ⟨_, rfl, hown1, hb.trans (hb1.mono hb.size)⟩
    | some x =>
      obtain ⟨q, hq⟩ : ∃ q, f = q + 1 := ⟨f - 1, by
        have := next_lt (a := x.1) (b := x.2) hnx
        rw [HLn.out] at this
        omega⟩
      subst hq
      have hx := next_lt (a := x.1) (b := x.2) hnx
      rw [HLn.out, Int.toNat_natCast] at hx
      have hx1 : p + 8 ≤ x.2 := by omega
      have hx2 : x.2 ≤ s.size := by omega
      have HA2 := Lib.hid (allN_step hnx HA.out)
      have hlp : pre.length < (allL L).1.length := by
        have := congrArg (fun z => z.1.length) HA2.out
        simp at this
        omega
      rw [hnx] at h1
      unfold nextR at h1
      have H1 := Lib.hid h1
      have HO := Lib.hid hown
      clear hnx h1 HA hown hx
      go_wp2_with fail
      refine H1.out.mono ?_
      rintro e w1 ⟨rfl, hb1⟩
      have hown1 := own_kept_below HO.out hb1
      have hb2 := hb.trans (hb1.mono hb.size)
      go_wp2_with (at_builtin; refine wpList_append_own _ rfl _ _ 22 rfl w.heap.size 9 i0 (.string ⟨#[]⟩) 1 16 Try.underlying22 hi hz0 hz1 hz2 rfl (by decide) _ _ _ rfl (hown1.alloc _) ⟨w1.heap.size, 0, none⟩ 1 1 [.string (s.extract x.1 x.2)] rfl rfl (new_one w1 _ _) (fun u hu => by simp at hu; rw [hu]; rfl) (by unfold maxLen; omega) (by omega) (by have := hb2.size; rw [World.size_alloc]; omega) ?_; intro v9 w9 hown9 hgr9 _)
      trace_state
      have b9 : Below w.heap.size w w9 := (hb2.alloc hb2.size _).grown hgr9 (by rw [World.size_alloc]; have := hb2.size; omega) (fun k hk => (hown1.lt k hk).1)
      go_roundw
      case rel => exact ⟨pre ++ [x], x.2, q, by go_num, hx2, by omega, HA2.out, by rw [bodies_snoc, List.length_append]; exact hown9, b9⟩
      case measure => simp [intOf]; omega
/-- As a row of texts. -/
theorem refAll_told (s : ByteArray) (hs : s.size ≤ 70368744177664) (w : World) :
    Calls Try.prog 14 #[.string s] w fun e w' => ∃ v, e = .returned (.tuple #[v, .int .i64 ((allL s.data.toList).2 : Nat)]) ∧ w'.ownsRow w.heap.size 9 1 v (told s).length (svals (told s)) ∧ Below w.heap.size w w' := by
  refine (refAll_any s hs w).mono ?_
  rintro e w' ⟨v, rfl, hown, hb⟩
  rw [told_svals] at hown
  exact ⟨v, rfl, by unfold told at hown ⊢; rw [List.length_map]; exact hown, hb⟩
end Go.Proofs.Ytlifobfbaiabgaa.Frame
