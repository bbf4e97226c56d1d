/- What strings.Cut answers at a comma and at an equals sign, and strings.Count at a comma, of every text; nothing is laid but draws. -/
import Derived.Test.YtpkaejacnblplaaLRead
import Derived.Lib.Split
import Derived.Laws.Strings3
namespace Go.Proofs.Ytpkaejacnblplaa.Label
open Go.RowKit Go.Proofs.Ytpkaejacnblplaa.Word

set_option maxHeartbeats 1000000 in
set_option maxRecDepth 100000 in
theorem indexByte_any (s : ByteArray) (c : Int) (w : World) :
    Calls Try.prog 75 #[.string s, .int .u8 c] w fun e w' => e = .returned (.int .i64 (Lib.indexByte s.data.toList c.toNat.toUInt8)) ∧ w = w' := by
  go_enter Try.func75, Try.ntmps75
  go_wp2
  rw [run_callFunc_extern Try.func83 (by kernel_rfl) (by kernel_rfl) (by kernel_rfl) (e := Extern.BytealgIndexByte.indexByte) (by kernel_rfl), Lib.run_indexByteString]
  simp only [Result.andThen]
  rw [Oper.upon_value]
  go_wp2
  go_ret
  exact ⟨rfl, rfl⟩

theorem index_cases (l : List UInt8) (c : UInt8) : (Lib.indexByte l c = -1 ∧ c ∉ l) ∨ ∃ i : Nat, Lib.indexByte l c = i ∧ i < l.length ∧ l = l.take i ++ c :: l.drop (i + 1) ∧ c ∉ l.take i := by
  have hge := Lib.indexByte_ge l c
  by_cases h : Lib.indexByte l c = -1
  · left
    refine ⟨h, fun hm => ?_⟩
    obtain ⟨k, hk⟩ := List.mem_iff_getElem?.1 hm
    exact Lib.indexByte_none h k hk
  · right
    obtain ⟨i, hi⟩ := Int.eq_ofNat_of_zero_le (show 0 ≤ Lib.indexByte l c by omega)
    obtain ⟨h1, h2⟩ := Lib.indexByte_some hi
    obtain ⟨hlt, hv⟩ := List.getElem?_eq_some_iff.1 h1
    refine ⟨i, hi, hlt, ?_, fun hm => ?_⟩
    · rw [← hv, ← List.drop_eq_getElem_cons hlt, List.take_append_drop]
    · obtain ⟨k, hk⟩ := List.mem_iff_getElem?.1 hm
      rw [List.getElem?_take] at hk
      split at hk
      · rename_i hki; exact h2 k hki hk
      · simp at hk
theorem extract_take (s : ByteArray) (i : Nat) : s.extract 0 i = str (s.data.toList.take i) := by
  apply ByteArray.ext
  apply Array.toList_inj.1
  rw [Lib.extract_data]
  simp [str]
theorem extract_drop (s : ByteArray) (i : Nat) : s.extract i s.size = str (s.data.toList.drop i) := by
  apply ByteArray.ext
  apply Array.toList_inj.1
  rw [Lib.extract_data]
  simp [str]
  rw [List.take_of_length_le (by rw [List.length_drop, size_list]; omega)]

/-- What stands ahead of the first such byte, what behind it, and whether there is one. -/
def cutAt (l : List UInt8) (c : UInt8) : List UInt8 × List UInt8 × Bool :=
  if Lib.indexByte l c = -1 then (l, [], false) else (l.take (Lib.indexByte l c).toNat, l.drop ((Lib.indexByte l c).toNat + 1), true)
theorem cutAt_no {l : List UInt8} {c : UInt8} (h : Lib.indexByte l c = -1) : cutAt l c = (l, [], false) := by rw [cutAt, if_pos h]
theorem cutAt_yes {l : List UInt8} {c : UInt8} {i : Nat} (h : Lib.indexByte l c = i) : cutAt l c = (l.take i, l.drop (i + 1), true) := by rw [cutAt, if_neg (by omega), h]; rfl
def cutV (s : ByteArray) (c : UInt8) : Value := .tuple #[.string (str (cutAt s.data.toList c).1), .string (str (cutAt s.data.toList c).2.1), .bool (cutAt s.data.toList c).2.2]

set_option maxHeartbeats 2000000 in
set_option maxRecDepth 100000 in
theorem index_44 (s : ByteArray) (w : World) :
    Calls Try.prog 69 #[.string s, .string ⟨#[44]⟩] w fun e w' => e = .returned (.int .i64 (Lib.indexByte s.data.toList 44)) ∧ w = w' := by
  go_enter Try.func69, Try.ntmps69
  go_wp2_with (go_at_call 75; refine (indexByte_any _ _ _).mono ?_; rintro e w' ⟨rfl, rfl⟩)
  · have h : ([44] == s.toList) = true := by assumption
    go_ret
    refine ⟨?_, rfl⟩
    have e : s.data.toList = [44] := by rw [← Lib.toList_data]; exact (beq_iff_eq.1 h).symm
    rw [e]
    rfl
  · go_ret
    exact ⟨rfl, rfl⟩
set_option maxHeartbeats 2000000 in
set_option maxRecDepth 100000 in
theorem cutL_44 (s : ByteArray) (hs : s.size ≤ 4611686018427387904) (w : World) :
    Calls Try.prog 70 #[.string s, .string ⟨#[44]⟩] w fun e w' => e = .returned (cutV s 44) ∧ Below w.heap.size w w' := by
  rcases index_cases s.data.toList 44 with ⟨h, _⟩ | ⟨i, h, hlt, _, _⟩
  · have HI : Hid (∀ w, Calls Try.prog 69 #[.string s, .string ⟨#[44]⟩] w fun e w' => e = .returned (.int .i64 (-1)) ∧ w = w') := Lib.hid fun w => by rw [← h]; exact index_44 s w
    have HE : Hid (cutV s 44 = .tuple #[.string s, .string ⟨#[]⟩, .bool false]) := Lib.hid (by unfold cutV; rw [cutAt_no h, str_data]; rfl)
    clear h
    go_enter Try.func70, Try.ntmps70
    go_wp2_with fail
    refine (HI.out _).mono ?_
    rintro e w' ⟨rfl, rfl⟩
    go_wp2
    go_ret3
    exact ⟨by rw [HE.out]; rfl, Below.refl _ _⟩
  · rw [size_list] at hlt
    have HI : Hid (∀ w, Calls Try.prog 69 #[.string s, .string ⟨#[44]⟩] w fun e w' => e = .returned (.int .i64 i) ∧ w = w') := Lib.hid fun w => by rw [← h]; exact index_44 s w
    have HE : Hid (cutV s 44 = .tuple #[.string (s.extract 0 i), .string (s.extract (i + 1) s.size), .bool true]) := Lib.hid (by unfold cutV; rw [cutAt_yes h, extract_take, extract_drop])
    clear h
    have c1 : (i : Int) ≤ (s.size : Int) := by omega
    have c2 : (i : Int) + 1 ≤ (s.size : Int) := by omega
    have c3 : (0 : Int) ≤ (i : Int) + 1 := by omega
    have c4 : (0 : Int) ≤ (i : Int) := by omega
    go_enter Try.func70, Try.ntmps70
    go_wp2_with fail
    refine (HI.out _).mono ?_
    rintro e w' ⟨rfl, rfl⟩
    go_wp2_with fail
    go_quiet (fail)
    go_wp2
    go_ret3
    exact ⟨by rw [HE.out]; rfl, below_drewN (Below.refl _ _) _⟩
set_option maxHeartbeats 1000000 in
theorem cut_44 (s : ByteArray) (hs : s.size ≤ 4611686018427387904) (w : World) :
    Calls Try.prog 55 #[.string s, .string ⟨#[44]⟩] w fun e w' => e = .returned (cutV s 44) ∧ Below w.heap.size w w' := by
  have H := Lib.hid (cutL_44 s hs)
  unfold cutV at H ⊢
  go_enter Try.func55, Try.ntmps55
  go_wp2_with fail
  refine (H.out _).mono ?_
  rintro e w' ⟨rfl, hb⟩
  go_wp2
  go_ret3
  exact ⟨rfl, hb⟩

set_option maxHeartbeats 2000000 in
set_option maxRecDepth 100000 in
theorem index_61 (s : ByteArray) (w : World) :
    Calls Try.prog 69 #[.string s, .string ⟨#[61]⟩] w fun e w' => e = .returned (.int .i64 (Lib.indexByte s.data.toList 61)) ∧ w = w' := by
  go_enter Try.func69, Try.ntmps69
  go_wp2_with (go_at_call 75; refine (indexByte_any _ _ _).mono ?_; rintro e w' ⟨rfl, rfl⟩)
  · have h : ([61] == s.toList) = true := by assumption
    go_ret
    refine ⟨?_, rfl⟩
    have e : s.data.toList = [61] := by rw [← Lib.toList_data]; exact (beq_iff_eq.1 h).symm
    rw [e]
    rfl
  · go_ret
    exact ⟨rfl, rfl⟩
set_option maxHeartbeats 2000000 in
set_option maxRecDepth 100000 in
theorem cutL_61 (s : ByteArray) (hs : s.size ≤ 4611686018427387904) (w : World) :
    Calls Try.prog 70 #[.string s, .string ⟨#[61]⟩] w fun e w' => e = .returned (cutV s 61) ∧ Below w.heap.size w w' := by
  rcases index_cases s.data.toList 61 with ⟨h, _⟩ | ⟨i, h, hlt, _, _⟩
  · have HI : Hid (∀ w, Calls Try.prog 69 #[.string s, .string ⟨#[61]⟩] w fun e w' => e = .returned (.int .i64 (-1)) ∧ w = w') := Lib.hid fun w => by rw [← h]; exact index_61 s w
    have HE : Hid (cutV s 61 = .tuple #[.string s, .string ⟨#[]⟩, .bool false]) := Lib.hid (by unfold cutV; rw [cutAt_no h, str_data]; rfl)
    clear h
    go_enter Try.func70, Try.ntmps70
    go_wp2_with fail
    refine (HI.out _).mono ?_
    rintro e w' ⟨rfl, rfl⟩
    go_wp2
    go_ret3
    exact ⟨by rw [HE.out]; rfl, Below.refl _ _⟩
  · rw [size_list] at hlt
    have HI : Hid (∀ w, Calls Try.prog 69 #[.string s, .string ⟨#[61]⟩] w fun e w' => e = .returned (.int .i64 i) ∧ w = w') := Lib.hid fun w => by rw [← h]; exact index_61 s w
    have HE : Hid (cutV s 61 = .tuple #[.string (s.extract 0 i), .string (s.extract (i + 1) s.size), .bool true]) := Lib.hid (by unfold cutV; rw [cutAt_yes h, extract_take, extract_drop])
    clear h
    have c1 : (i : Int) ≤ (s.size : Int) := by omega
    have c2 : (i : Int) + 1 ≤ (s.size : Int) := by omega
    have c3 : (0 : Int) ≤ (i : Int) + 1 := by omega
    have c4 : (0 : Int) ≤ (i : Int) := by omega
    go_enter Try.func70, Try.ntmps70
    go_wp2_with fail
    refine (HI.out _).mono ?_
    rintro e w' ⟨rfl, rfl⟩
    go_wp2_with fail
    go_quiet (fail)
    go_wp2
    go_ret3
    exact ⟨by rw [HE.out]; rfl, below_drewN (Below.refl _ _) _⟩
set_option maxHeartbeats 1000000 in
theorem cut_61 (s : ByteArray) (hs : s.size ≤ 4611686018427387904) (w : World) :
    Calls Try.prog 55 #[.string s, .string ⟨#[61]⟩] w fun e w' => e = .returned (cutV s 61) ∧ Below w.heap.size w w' := by
  have H := Lib.hid (cutL_61 s hs)
  unfold cutV at H ⊢
  go_enter Try.func55, Try.ntmps55
  go_wp2_with fail
  refine (H.out _).mono ?_
  rintro e w' ⟨rfl, hb⟩
  go_wp2
  go_ret3
  exact ⟨rfl, hb⟩
end Go.Proofs.Ytpkaejacnblplaa.Label
