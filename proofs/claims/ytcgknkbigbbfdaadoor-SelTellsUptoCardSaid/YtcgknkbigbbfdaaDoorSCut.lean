/- What strings.Cut, CutPrefix and CutSuffix answer at any one byte, of every text; nothing is laid but draws. Of no layer. -/
import Derived.Test.YtcgknkbigbbfdaaDoorSplit
import Derived.Test.YtcgknkbigbbfdaaDoorSSameV
namespace Go.Proofs.YtcgknkbigbbfdaaDoor.Split
open Go.RowKit Go.Proofs.YtcgknkbigbbfdaaDoor.Word Go.Proofs.YtcgknkbigbbfdaaDoor.Forms

theorem ext_one {s : ByteArray} {c : UInt8} : ((s.extract 0 1).toList == (⟨#[c]⟩ : ByteArray).toList) = decide (s.data.toList.head? = some c) := by
  rw [Lib.toList_data, Lib.toList_data, Lib.extract_data]
  cases h : s.data.toList with
  | nil => simp
  | cons d l => simp; rw [Bool.eq_iff_iff]; simp
theorem ext_last {s : ByteArray} {c : UInt8} (h : 0 < s.size) : ((s.extract (s.size - 1) s.size).toList == (⟨#[c]⟩ : ByteArray).toList) = decide (s.data.toList.getLast? = some c) := by
  rw [Lib.toList_data, Lib.toList_data, Lib.extract_data]
  rw [← size_list] at h ⊢
  obtain ⟨l, d, e⟩ : ∃ l d, s.data.toList = l ++ [d] := ⟨_, _, (List.dropLast_concat_getLast (List.length_pos_iff.1 h)).symm⟩
  rw [e]
  simp
  rw [Bool.eq_iff_iff]
  simp
theorem ext_tail (s : ByteArray) : s.extract 1 s.size = str s.data.toList.tail := by
  rw [extract_drop]
  simp
theorem ext_init (s : ByteArray) : s.extract 0 (s.size - 1) = str s.data.toList.dropLast := by
  rw [extract_take, List.dropLast_eq_take, size_list]

set_option maxHeartbeats 1000000 in
set_option maxRecDepth 100000 in
theorem hasPrefix_any (c : UInt8) (s : ByteArray) (hs : s.size ≤ 4611686018427387904) (w : World) :
    Calls Tryd.prog 86 #[.string s, .string ⟨#[c]⟩] w fun e w' => e = .returned (.bool (decide (s.data.toList.head? = some c))) ∧ w' = w := by
  by_cases h0 : 0 < s.size
  · have HE := Lib.hid (ext_one (s := s) (c := c))
    have k0 : (1 : Int) ≤ (s.size : Int) := by omega
    have k1 : ¬ (s.size : Int) < 1 := by omega
    have k2 : 1 ≤ s.size := by omega
    have k3 : decide (1 ≤ s.size) = true := decide_eq_true k2
    have k4 : decide ((1 : Int) ≤ (s.size : Int)) = true := decide_eq_true k0
    go_enter Tryd.func86, Tryd.ntmps86
    go_wp2
    go_ret
    refine ⟨?_, rfl⟩
    rw [← HE.out]
    first | rfl | (rw [one_list]; rfl)
  · have k0 : ¬ (1 : Int) ≤ (s.size : Int) := by omega
    have k2 : ¬ 1 ≤ s.size := by omega
    have k3 : decide (1 ≤ s.size) = false := decide_eq_false k2
    have k4 : decide ((1 : Int) ≤ (s.size : Int)) = false := decide_eq_false k0
    have k5 : (s.size : Int) < 1 := by omega
    have HE : Hid (decide (s.data.toList.head? = some c) = false) := Lib.hid (by
      have : s.data.toList = [] := List.eq_nil_of_length_eq_zero (by rw [size_list]; omega)
      rw [this]; simp)
    go_enter Tryd.func86, Tryd.ntmps86
    go_wp2
    go_ret
    exact ⟨by rw [HE.out]; rfl, rfl⟩
set_option maxHeartbeats 1000000 in
set_option maxRecDepth 100000 in
theorem hasSuffix_any (c : UInt8) (s : ByteArray) (hs : s.size ≤ 4611686018427387904) (w : World) :
    Calls Tryd.prog 88 #[.string s, .string ⟨#[c]⟩] w fun e w' => e = .returned (.bool (decide (s.data.toList.getLast? = some c))) ∧ w' = w := by
  obtain ⟨r, hr⟩ : ∃ r, decide (s.data.toList.getLast? = some c) = r := ⟨_, rfl⟩
  rw [hr]
  by_cases h0 : 0 < s.size
  · have HE := Lib.hid (ext_last (s := s) (c := c) h0)
    rw [hr] at HE
    clear hr
    obtain ⟨m, hm⟩ : ∃ m, s.size = m + 1 := ⟨s.size - 1, by omega⟩
    have k0 : (1 : Int) ≤ (s.size : Int) := by omega
    have k1 : ¬ (s.size : Int) < 1 := by omega
    have k2 : 1 ≤ s.size := by omega
    have k3 : decide (1 ≤ s.size) = true := decide_eq_true k2
    have k4 : decide ((1 : Int) ≤ (s.size : Int)) = true := decide_eq_true k0
    have k6 : IntKind.i64.wrap ((s.size : Int) - 1) = (m : Int) := by rw [IntKind.wrap_i64]; omega
    have k7 : (s.size : Int) - 1 = (m : Int) := by omega
    have k8 : (m : Int) ≤ (s.size : Int) := by omega
    have k9 : (0 : Int) ≤ (m : Int) := by omega
    have HM : Hid (s.size - 1 = m) := Lib.hid (by omega)
    rw [HM.out] at HE
    clear hm HM
    go_enter Tryd.func88, Tryd.ntmps88
    go_wp2
    go_ret
    refine ⟨?_, rfl⟩
    rw [← HE.out]
    first | rfl | (rw [one_list]; rfl)
  · have k0 : ¬ (1 : Int) ≤ (s.size : Int) := by omega
    have k2 : ¬ 1 ≤ s.size := by omega
    have k3 : decide (1 ≤ s.size) = false := decide_eq_false k2
    have k4 : decide ((1 : Int) ≤ (s.size : Int)) = false := decide_eq_false k0
    have k5 : (s.size : Int) < 1 := by omega
    have HE : Hid (r = false) := Lib.hid (by
      rw [← hr]
      have : s.data.toList = [] := List.eq_nil_of_length_eq_zero (by rw [size_list]; omega)
      rw [this]; simp)
    clear hr
    go_enter Tryd.func88, Tryd.ntmps88
    go_wp2
    go_ret
    exact ⟨by rw [HE.out]; rfl, rfl⟩

set_option maxHeartbeats 1000000 in
set_option maxRecDepth 100000 in
theorem prefixL_yes (c : UInt8) (s : ByteArray) (hs : s.size ≤ 4611686018427387904) (h : s.data.toList.head? = some c) (w : World) :
    Calls Tryd.prog 76 #[.string s, .string ⟨#[c]⟩] w fun e w' => e = .returned (.tuple #[.string (str s.data.toList.tail), .bool true]) ∧ w' = w := by
  have HP := Lib.hid (hasPrefix_any c s hs w)
  rw [decide_eq_true h] at HP
  have HT := Lib.hid (ext_tail s)
  have k0 : (1 : Int) ≤ (s.size : Int) := by
    rw [← size_list]
    cases hl : s.data.toList with
    | nil => rw [hl] at h; simp at h
    | cons d l => simp; omega
  clear h
  go_enter Tryd.func76, Tryd.ntmps76
  go_wp2_with fail
  with_reducible refine HP.out.mono ?_
  rintro e w' ⟨rfl, rfl⟩
  go_wp2
  go_ret2
  exact ⟨by rw [← HT.out]; rfl, rfl⟩
set_option maxHeartbeats 1000000 in
set_option maxRecDepth 100000 in
theorem prefixL_no (c : UInt8) (s : ByteArray) (hs : s.size ≤ 4611686018427387904) (h : ¬ s.data.toList.head? = some c) (w : World) :
    Calls Tryd.prog 76 #[.string s, .string ⟨#[c]⟩] w fun e w' => e = .returned (.tuple #[.string s, .bool false]) ∧ w' = w := by
  have HP := Lib.hid (hasPrefix_any c s hs w)
  rw [decide_eq_false h] at HP
  clear h
  go_enter Tryd.func76, Tryd.ntmps76
  go_wp2_with fail
  with_reducible refine HP.out.mono ?_
  rintro e w' ⟨rfl, rfl⟩
  go_wp2
  go_ret2
  exact ⟨rfl, rfl⟩
set_option maxHeartbeats 1000000 in
set_option maxRecDepth 100000 in
theorem suffixL_yes (c : UInt8) (s : ByteArray) (hs : s.size ≤ 4611686018427387904) (h : s.data.toList.getLast? = some c) (w : World) :
    Calls Tryd.prog 78 #[.string s, .string ⟨#[c]⟩] w fun e w' => e = .returned (.tuple #[.string (str s.data.toList.dropLast), .bool true]) ∧ w' = w := by
  have HP := Lib.hid (hasSuffix_any c s hs w)
  rw [decide_eq_true h] at HP
  have HT := Lib.hid (ext_init s)
  have hpos : 0 < s.size := by
    rw [← size_list]
    cases hl : s.data.toList with
    | nil => rw [hl] at h; simp at h
    | cons d l => simp
  obtain ⟨m, hm⟩ : ∃ m, s.size = m + 1 := ⟨s.size - 1, by omega⟩
  have k6 : IntKind.i64.wrap ((s.size : Int) - 1) = (m : Int) := by rw [IntKind.wrap_i64]; omega
  have k7 : (s.size : Int) - 1 = (m : Int) := by omega
  have k8 : (m : Int) ≤ (s.size : Int) := by omega
  have k9 : (0 : Int) ≤ (m : Int) := by omega
  have HM : Hid (s.size - 1 = m) := Lib.hid (by omega)
  rw [HM.out] at HT
  clear hm HM h
  go_enter Tryd.func78, Tryd.ntmps78
  go_wp2_with fail
  with_reducible refine HP.out.mono ?_
  rintro e w' ⟨rfl, rfl⟩
  go_wp2
  go_ret2
  exact ⟨by rw [← HT.out]; rfl, rfl⟩
set_option maxHeartbeats 1000000 in
set_option maxRecDepth 100000 in
theorem suffixL_no (c : UInt8) (s : ByteArray) (hs : s.size ≤ 4611686018427387904) (h : ¬ s.data.toList.getLast? = some c) (w : World) :
    Calls Tryd.prog 78 #[.string s, .string ⟨#[c]⟩] w fun e w' => e = .returned (.tuple #[.string s, .bool false]) ∧ w' = w := by
  have HP := Lib.hid (hasSuffix_any c s hs w)
  rw [decide_eq_false h] at HP
  clear h
  go_enter Tryd.func78, Tryd.ntmps78
  go_wp2_with fail
  with_reducible refine HP.out.mono ?_
  rintro e w' ⟨rfl, rfl⟩
  go_wp2
  go_ret2
  exact ⟨rfl, rfl⟩
/-- What CutPrefix tells. -/
def preV (c : UInt8) (s : ByteArray) : Value := if s.data.toList.head? = some c then .tuple #[.string (str s.data.toList.tail), .bool true] else .tuple #[.string s, .bool false]
/-- What CutSuffix tells. -/
def sufV (c : UInt8) (s : ByteArray) : Value := if s.data.toList.getLast? = some c then .tuple #[.string (str s.data.toList.dropLast), .bool true] else .tuple #[.string s, .bool false]
set_option maxHeartbeats 1000000 in
set_option maxRecDepth 100000 in
theorem prefix_any (c : UInt8) (s : ByteArray) (hs : s.size ≤ 4611686018427387904) (w : World) :
    Calls Tryd.prog 57 #[.string s, .string ⟨#[c]⟩] w fun e w' => e = .returned (preV c s) ∧ w' = w := by
  have HP : Hid (∃ a b, preV c s = .tuple #[.string a, .bool b] ∧ Calls Tryd.prog 76 #[.string s, .string ⟨#[c]⟩] w fun e w' => e = .returned (.tuple #[.string a, .bool b]) ∧ w' = w) := Lib.hid (by
    unfold preV
    split
    · rename_i h; exact ⟨_, _, rfl, prefixL_yes c s hs h w⟩
    · rename_i h; exact ⟨_, _, rfl, prefixL_no c s hs h w⟩)
  obtain ⟨a, b, e, h⟩ := HP.out
  rw [e]
  have H := Lib.hid h
  clear h HP e
  go_enter Tryd.func57, Tryd.ntmps57
  go_wp2_with fail
  with_reducible refine H.out.mono ?_
  rintro e w' ⟨rfl, rfl⟩
  go_wp2
  go_ret2
  exact ⟨rfl, rfl⟩
set_option maxHeartbeats 1000000 in
set_option maxRecDepth 100000 in
theorem suffix_any (c : UInt8) (s : ByteArray) (hs : s.size ≤ 4611686018427387904) (w : World) :
    Calls Tryd.prog 59 #[.string s, .string ⟨#[c]⟩] w fun e w' => e = .returned (sufV c s) ∧ w' = w := by
  have HP : Hid (∃ a b, sufV c s = .tuple #[.string a, .bool b] ∧ Calls Tryd.prog 78 #[.string s, .string ⟨#[c]⟩] w fun e w' => e = .returned (.tuple #[.string a, .bool b]) ∧ w' = w) := Lib.hid (by
    unfold sufV
    split
    · rename_i h; exact ⟨_, _, rfl, suffixL_yes c s hs h w⟩
    · rename_i h; exact ⟨_, _, rfl, suffixL_no c s hs h w⟩)
  obtain ⟨a, b, e, h⟩ := HP.out
  rw [e]
  have H := Lib.hid h
  clear h HP e
  go_enter Tryd.func59, Tryd.ntmps59
  go_wp2_with fail
  with_reducible refine H.out.mono ?_
  rintro e w' ⟨rfl, rfl⟩
  go_wp2
  go_ret2
  exact ⟨rfl, rfl⟩

/-- What stands ahead of the first such byte, what behind it, and whether there is one. -/
def cutAt (l : List UInt8) (c : UInt8) : List UInt8 × List UInt8 × Bool :=
  if Lib.indexByte l c = -1 then (l, [], false) else (l.take (Lib.indexByte l c).toNat, l.drop ((Lib.indexByte l c).toNat + 1), true)
theorem cutAt_no {l : List UInt8} {c : UInt8} (h : Lib.indexByte l c = -1) : cutAt l c = (l, [], false) := by rw [cutAt, if_pos h]
theorem cutAt_yes {l : List UInt8} {c : UInt8} {i : Nat} (h : Lib.indexByte l c = i) : cutAt l c = (l.take i, l.drop (i + 1), true) := by rw [cutAt, if_neg (by omega), h]; rfl
def cutV (s : ByteArray) (c : UInt8) : Value := .tuple #[.string (str (cutAt s.data.toList c).1), .string (str (cutAt s.data.toList c).2.1), .bool (cutAt s.data.toList c).2.2]
set_option maxHeartbeats 2000000 in
set_option maxRecDepth 100000 in
theorem cutL_any (c : UInt8) (s : ByteArray) (hs : s.size ≤ 4611686018427387904) (w : World) :
    Calls Tryd.prog 77 #[.string s, .string ⟨#[c]⟩] w fun e w' => e = .returned (cutV s c) ∧ Below w.heap.size w w' := by
  rcases index_cases s.data.toList c with ⟨h, _⟩ | ⟨i, h, hlt, _, _⟩
  · have HI : Hid (∀ w, Calls Tryd.prog 87 #[.string s, .string ⟨#[c]⟩] w fun e w' => e = .returned (.int .i64 (-1)) ∧ w = w') := Lib.hid fun w => by rw [← h]; exact index_lite c s w
    have HE : Hid (cutV s c = .tuple #[.string s, .string ⟨#[]⟩, .bool false]) := Lib.hid (by unfold cutV; rw [cutAt_no h, str_data]; rfl)
    clear h
    go_enter Tryd.func77, Tryd.ntmps77
    go_wp2_with fail
    refine (HI.out _).mono ?_
    rintro e w' ⟨rfl, rfl⟩
    go_wp2
    go_ret3
    exact ⟨by rw [HE.out]; rfl, Below.refl _ _⟩
  · rw [size_list] at hlt
    have HI : Hid (∀ w, Calls Tryd.prog 87 #[.string s, .string ⟨#[c]⟩] w fun e w' => e = .returned (.int .i64 i) ∧ w = w') := Lib.hid fun w => by rw [← h]; exact index_lite c s w
    have HE : Hid (cutV s c = .tuple #[.string (s.extract 0 i), .string (s.extract (i + 1) s.size), .bool true]) := Lib.hid (by unfold cutV; rw [cutAt_yes h, extract_take, extract_drop])
    clear h
    have c1 : (i : Int) ≤ (s.size : Int) := by omega
    have c2 : (i : Int) + 1 ≤ (s.size : Int) := by omega
    have c3 : (0 : Int) ≤ (i : Int) + 1 := by omega
    have c4 : (0 : Int) ≤ (i : Int) := by omega
    go_enter Tryd.func77, Tryd.ntmps77
    go_wp2_with fail
    refine (HI.out _).mono ?_
    rintro e w' ⟨rfl, rfl⟩
    go_wp2_with fail
    go_quiet (fail)
    go_wp2
    go_ret3
    exact ⟨by rw [HE.out]; rfl, Sel.below_drewN (Below.refl _ _) _⟩
set_option maxHeartbeats 1000000 in
theorem cut_any (c : UInt8) (s : ByteArray) (hs : s.size ≤ 4611686018427387904) (w : World) :
    Calls Tryd.prog 58 #[.string s, .string ⟨#[c]⟩] w fun e w' => e = .returned (cutV s c) ∧ Below w.heap.size w w' := by
  have H := Lib.hid (cutL_any c s hs)
  unfold cutV at H ⊢
  go_enter Tryd.func58, Tryd.ntmps58
  go_wp2_with fail
  refine (H.out _).mono ?_
  rintro e w' ⟨rfl, hb⟩
  go_wp2
  go_ret3
  exact ⟨rfl, hb⟩
end Go.Proofs.YtcgknkbigbbfdaaDoor.Split
