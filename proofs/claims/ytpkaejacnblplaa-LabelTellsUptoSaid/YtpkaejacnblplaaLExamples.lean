/- The chapter's examples, as the statements ask them ahead: they hold. -/
import Derived.Test.YtpkaejacnblplaaLText
namespace Go.Proofs.Ytpkaejacnblplaa.Label
open Go.RowKit Go.Proofs.Ytpkaejacnblplaa.Word

def disk : ByteArray := ⟨#[100, 105, 115, 107]⟩
def ssd : ByteArray := ⟨#[115, 115, 100]⟩
def zone : ByteArray := ⟨#[122, 111, 110, 101]⟩
def letA : ByteArray := ⟨#[97]⟩
def good : ByteArray := ⟨#[100, 105, 115, 107, 61, 115, 115, 100, 44, 122, 111, 110, 101, 61, 97]⟩
def bad : ByteArray := ⟨#[122, 111, 110, 101, 61, 97, 44, 100, 105, 115, 107, 61, 115, 115, 100]⟩

theorem less_data (x y : ByteArray) : less x y = Op.bytesLess x.data.toList y.data.toList := by unfold less; rw [Lib.toList_data, Lib.toList_data]
theorem right_two : rightL [(disk, ssd), (zone, letA)] = true := by
  unfold rightL risesB
  rw [less_data]
  decide +kernel
theorem right_turned : rightL [(zone, letA), (disk, ssd)] = false := by
  unfold rightL risesB
  rw [less_data]
  decide +kernel
theorem right_one : rightL [(zone, letA)] = true := by
  unfold rightL risesB
  decide +kernel
theorem right_not : rightL [(letA, ⟨#[]⟩)] = false := by
  unfold rightL risesB
  decide +kernel
theorem read_good : readN onePair (good.data.toList.count 44 + 1) good = some ([(disk, ssd), (zone, letA)], ⟨#[]⟩) := by kernel_rfl
theorem read_bad : readN onePair (bad.data.toList.count 44 + 1) bad = some ([(zone, letA), (disk, ssd)], ⟨#[]⟩) := by kernel_rfl
theorem parse_good : parseL good = some [(disk, ssd), (zone, letA)] := by
  unfold parseL
  rw [Lib.toList_data, if_neg (by decide +kernel), if_neg (by decide +kernel), read_good]
  show (if rightL _ = true then _ else _) = _
  rw [if_pos right_two]
theorem parse_bad : parseL bad = none := by
  unfold parseL
  rw [Lib.toList_data, if_neg (by decide +kernel), if_neg (by decide +kernel), read_bad]
  show (if rightL _ = true then _ else _) = _
  rw [if_neg (by rw [right_turned]; simp)]
theorem parse_dash : parseL ⟨#[45]⟩ = some [] := by
  unfold parseL
  rw [Lib.toList_data, if_pos (by decide +kernel)]
theorem find_zone : findL [(disk, ssd), (zone, letA)] zone = some letA := by
  unfold findL
  simp only [Lib.toList_data]
  kernel_rfl
theorem text_two : textP [(disk, ssd), (zone, letA)] = good := by
  unfold textP
  rw [if_pos right_two, if_neg (by simp)]
  kernel_rfl
theorem put_one : putP [(zone, letA)] = ⟨#[1, 4, 122, 111, 110, 101, 1, 97]⟩ := by
  unfold putP
  rw [if_pos right_one]
  kernel_rfl
theorem text_none : textP [] = ⟨#[45]⟩ := rfl

theorem Row.tail {w : World} {v : Value} {x y : Pr} (h : Row w v [x, y]) : ∃ g o cap, v = .slice (some ⟨g, o, none⟩) 2 cap ∧ 2 ≤ cap ∧ Row w (.slice (some ⟨g, o + 1 * 2, none⟩) 1 (cap - 1)) [y] := by
  rcases h with ⟨h, _⟩ | ⟨_, g, o, cap, rfl, hg, hc, hm, hcell⟩
  · simp at h
  · refine ⟨g, o, cap, rfl, hc, .inr ⟨by simp, g, o + 1 * 2, cap - 1, rfl, hg, by simp at hc ⊢; omega, by omega, fun j z hj => ?_⟩⟩
    cases j with
    | zero => simp at hj; subst hj; exact hcell 1 y rfl
    | succ j => simp at hj

theorem one_row (w : World) (a b : ByteArray) : Row (w.alloc (.cells #[.string a, .string b] 48)) (.slice (some ⟨w.heap.size, 0, none⟩) 1 1) [(a, b)] := by
  have h := two_cells (heap_alloc_new w (.cells #[.string a, .string b] 48))
  refine .inr ⟨by simp, w.heap.size, 0, 1, rfl, by simp, Nat.le_refl _, by decide, fun j z hj => ?_⟩
  cases j with
  | zero => simp at hj; subst hj; exact h
  | succ j => simp at hj

set_option maxHeartbeats 4000000 in
set_option maxRecDepth 100000 in
theorem examples_any (w : World) : Calls Try.prog 9 #[] w fun e w' => e = .returned (.bool true) ∧ Below w.heap.size w w' := by
  have P1 := Lib.hid (parse_any good (by decide))
  have P2 := Lib.hid (parse_any bad (by decide))
  have P3 := Lib.hid (parse_any ⟨#[45]⟩ (by decide))
  rw [parse_good] at P1
  rw [parse_bad] at P2
  rw [parse_dash] at P3
  go_enter Try.func9, Try.ntmps9
  go_wp2_with fail
  refine (P1.out _).mono ?_
  rintro e w1 ⟨⟨v, rfl, hv⟩, hb1⟩
  have HV := Lib.hid hv
  clear hv
  go_wp2_with fail
  refine (P2.out _).mono ?_
  rintro e w2 ⟨rfl, hb2⟩
  have HV2 := Lib.hid (HV.out.below hb2)
  have hb := hb1.trans (hb2.mono hb1.size)
  clear HV hb1 hb2
  have HF : Hid (Calls Try.prog 11 #[v, .string zone] w2 fun e w' => e = .returned (.tuple #[.string ⟨#[97]⟩, .bool true]) ∧ Below w2.heap.size w2 w') := Lib.hid (by
    have := find_any v _ zone w2 HV2.out (by decide)
    rw [find_zone] at this
    exact this)
  go_wp2_with fail
  refine HF.out.mono ?_
  rintro e w3 ⟨rfl, hb3⟩
  have HV3 := Lib.hid (HV2.out.below hb3)
  have hb' := hb.trans (hb3.mono hb.size)
  clear HV2 hb hb3 HF
  go_wp2_with fail
  refine (P3.out _).mono ?_
  rintro e w4 ⟨⟨v4, rfl, hv4⟩, hb4⟩
  have HV4 := Lib.hid (HV3.out.below hb4)
  have hb := hb'.trans (hb4.mono hb'.size)
  clear HV3 hb' hb4
  rcases hv4 with ⟨_, a4, cap4, rfl, _⟩ | ⟨h, _⟩
  · obtain ⟨g, o, cap, rfl, hcap, hrow⟩ := HV4.out.tail
    have HRo := Lib.hid hrow
    clear hrow
    have hl : (good.toList == [100, 105, 115, 107, 61, 115, 115, 100, 44, 122, 111, 110, 101, 61, 97]) = true := by rw [Lib.toList_data]; decide +kernel
    have HTe : Hid (∀ w v, Row w v [(disk, ssd), (zone, letA)] → Calls Try.prog 22 #[v] w fun e w' => e = .returned (.string good) ∧ Below w.heap.size w w') := Lib.hid fun w v h => by
      have := text_rows v _ w h (by decide)
      rw [text_two] at this
      exact this
    have HPu : Hid (∀ w v, Row w v [(zone, letA)] → Calls Try.prog 20 #[v] w fun e w' => e = .returned (.string ⟨#[1, 4, 122, 111, 110, 101, 1, 97]⟩) ∧ Below w.heap.size w w') := Lib.hid fun w v h => by
      have := put_rows v _ w h (by decide)
      rw [put_one] at this
      exact this
    have HTn : Hid (∀ w, Calls Try.prog 22 #[.slice none 0 0] w fun e w' => e = .returned (.string ⟨#[45]⟩) ∧ Below w.heap.size w w') := Lib.hid fun w => by
      have := text_rows (.slice none 0 0) [] w (.inl ⟨rfl, _, _, rfl, Nat.zero_le _⟩) (by decide)
      rw [text_none] at this
      exact this
    have HRn : Hid (∀ w v, Row w v [(letA, ⟨#[]⟩)] → Calls Try.prog 18 #[v] w fun e w' => e = .returned (.bool false) ∧ Below w.heap.size w w') := Lib.hid fun w v h => by
      have := right_rows v _ w h (by decide)
      rw [right_not] at this
      exact this
    go_wp2_with fail
    refine (HTe.out _ _ HV4.out).mono ?_
    rintro e w5 ⟨rfl, hb5⟩
    have HRo5 := Lib.hid (HRo.out.below hb5)
    have hb' := hb.trans (hb5.mono hb.size)
    clear hb hb5
    have hc1 : (1 : Int) ≤ (cap : Int) := by omega
    have hc2 : (2 : Int) ≤ (cap : Int) := by omega
    have hc3 : 1 < cap := by omega
    go_wp2_with fail
    refine (HPu.out _ _ HRo5.out).mono ?_
    rintro e w6 ⟨rfl, hb6⟩
    have hb := hb'.trans (hb6.mono hb'.size)
    clear hb' hb6
    go_wp2_with fail
    refine (HTn.out _).mono ?_
    rintro e w7 ⟨rfl, hb7⟩
    have hb' := hb.trans (hb7.mono hb.size)
    clear hb hb7
    go_wp2_with fail
    refine (HRn.out _ _ (one_row w7 letA ⟨#[]⟩)).mono ?_
    rintro e w8 ⟨rfl, hb8⟩
    have hbA := hb'.alloc hb'.size (.cells #[.string letA, .string ⟨#[]⟩] 48)
    have hb := hbA.trans (hb8.mono hbA.size)
    go_wp2
    go_ret
    exact ⟨rfl, hb⟩
  · exact absurd rfl h
end Go.Proofs.Ytpkaejacnblplaa.Label
