/- What the statements' own same answers of two rows of the same texts: true; of memory that was there nothing turns. What All tells as a row of texts. -/
import Derived.Test.YtlifobfbaiabgaaFAllV
import Derived.Test.YtlifobfbaiabgaaTexts
import Derived.Test.YtlifobfbaiabgaaQuiet
import Derived.Deep.QuietTactic
import Derived.BigQuiet
namespace Go.Proofs.Ytlifobfbaiabgaa.Frame
open Go.RowKit Go.Proofs.Ytlifobfbaiabgaa.Texts

set_option maxHeartbeats 2000000 in
set_option maxRecDepth 100000 in
theorem same_yes (u v : Value) (a : List ByteArray) (w : World) (hu : SRow w u a) (hv : SRow w v a) (ha : a.length ≤ 4611686018427387904) :
    Calls Try.prog 15 #[u, v] w fun e w' => e = .returned (.bool true) ∧ Below w.heap.size w w' := by
  obtain ⟨x, cx, rfl, _⟩ := hu.slice
  obtain ⟨y, cy, rfl, _⟩ := hv.slice
  have HU := Lib.hid hu
  have HV := Lib.hid hv
  clear hu hv
  go_enter Try.func15, Try.ntmps15
  go_wp2
  go_loopw [5] (fun i wr => ∃ k : Nat, k ≤ a.length ∧ i = .int .i64 k ∧ Below w.heap.size w wr) (fun i _ => a.length - (intOf i).toNat)
  case atStart => exact ⟨0, Nat.zero_le _, rfl, Below.refl _ _⟩
  case round =>
    obtain ⟨k, hk, rfl, hb⟩ := hrel
    by_cases hlt : k < a.length
    · have hltz : (k : Int) < (a.length : Int) := by omega
      have hk0 : (0 : Int) ≤ (k : Int) := by omega
      obtain ⟨g, o, rfl, hg, hc⟩ := HU.out.cells hlt
      obtain ⟨g', o', rfl, hg', hc'⟩ := HV.out.cells hlt
      obtain ⟨x, hx⟩ : ∃ x, a[k]? = some x := ⟨_, List.getElem?_eq_getElem hlt⟩
      have c1 := hc.below hg hb k x hx
      have d1 := hc'.below hg' hb k x hx
      clear hx hc hc'
      go_wp2
      go_quiet (fail)
      go_wp2
      go_roundw
      case rel => exact ⟨k + 1, by omega, by go_num, below_drewN hb _⟩
      case measure => simp [intOf]; omega
    · have hltz : ¬ (k : Int) < (a.length : Int) := by omega
      go_wp2
      go_ret
      exact ⟨rfl, hb⟩

/-- The texts that All tells. -/
def told (s : ByteArray) : List ByteArray := (allL s.data.toList).1.map fun x => s.extract x.1 x.2
theorem told_len (s : ByteArray) : 8 * (told s).length ≤ s.size := by
  have := allL_len s.data.toList
  rw [size_list] at this
  unfold told
  rw [List.length_map]
  exact this
theorem told_svals (s : ByteArray) : bodies s (allL s.data.toList).1 = svals (told s) := by simp [bodies, svals, told]
theorem told_few (s : ByteArray) (hs : s.size ≤ 4611686018427387904) (hl : (told s).length ≤ 8796093022208) (w : World) :
    Calls Try.prog 13 #[.string s] w fun e w' => ∃ v, e = .returned (.tuple #[v, .int .i64 ((allL s.data.toList).2 : Nat)]) ∧ w'.ownsRow w.heap.size 9 1 v (told s).length (svals (told s)) ∧ Below w.heap.size w w' := by
  refine (all_few s hs (by unfold told at hl; rw [List.length_map] at hl; exact hl) w).mono ?_
  rintro e w' ⟨v, rfl, hown, hb⟩
  rw [told_svals] at hown
  exact ⟨v, rfl, by unfold told at hown ⊢; rw [List.length_map]; exact hown, hb⟩
/-- What All answers, as a row of texts of one's own. -/
theorem all_told (s : ByteArray) (hs : s.size ≤ 70368744177664) (w : World) :
    Calls Try.prog 13 #[.string s] w fun e w' => ∃ v, e = .returned (.tuple #[v, .int .i64 ((allL s.data.toList).2 : Nat)]) ∧ w'.ownsRow w.heap.size 9 1 v (told s).length (svals (told s)) ∧ Below w.heap.size w w' := by
  refine (all_any s hs w).mono ?_
  rintro e w' ⟨v, rfl, hown, hb⟩
  rw [told_svals] at hown
  exact ⟨v, rfl, by unfold told at hown ⊢; rw [List.length_map]; exact hown, hb⟩
end Go.Proofs.Ytlifobfbaiabgaa.Frame
