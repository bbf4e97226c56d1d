/- What frame.Put and frame.Next answer, of any text and place; of memory that was there nothing turns. -/
import Derived.Test.YtlifobfbaiabgaaFNum
import Derived.Deep.QuietTactic
import Derived.BigQuiet
namespace Go.Proofs.Ytlifobfbaiabgaa.Frame
open Go.RowKit

/-- What Next hands back. -/
def nextR (s : ByteArray) : Option (Nat × Nat) → Value
  | none => .tuple #[.string ⟨#[]⟩, .int .i64 0, .bool false]
  | some x => .tuple #[.string (s.extract x.1 x.2), .int .i64 (x.2 : Nat), .bool true]
theorem ext_list (s : ByteArray) (a b : Nat) : (s.extract a b).data.toList = cut s.data.toList a b := by
  unfold cut
  rw [ByteArray.data_extract, Array.toList_extract, List.extract_eq_take_drop]
theorem four_cut (l : List UInt8) (p n : Nat) (hp : p + 8 ≤ l.length) (hn : n < 4294967296) : (cut l (p + 4) (p + 8) = four n) ↔ fourV (l.drop (p + 4)) = n := by
  have hl : 4 ≤ (l.drop (p + 4)).length := by rw [List.length_drop]; omega
  have e : cut l (p + 4) (p + 8) = four (fourV (l.drop (p + 4))) := by
    rw [four_fourV hl]; unfold cut; rw [show p + 8 - (p + 4) = 4 by omega]
  rw [e]
  constructor
  · intro h
    have h1 := fourV_four (fourV_lt (l.drop (p + 4))) []
    have h2 := fourV_four hn []
    rw [h] at h1
    omega
  · intro h; rw [h]

set_option maxHeartbeats 1000000 in
theorem next_any (s : ByteArray) (hs : s.size ≤ 4611686018427387904) (p : Int) (hp0 : -9223372036854775808 ≤ p) (hp1 : p ≤ 9223372036854775807) (w : World) :
    Calls Try.prog 11 #[.string s, .int .i64 p] w fun e w' => e = .returned (nextR s (nextF s.data.toList p)) ∧ w = w' := by
  by_cases hn : p < 0
  · rw [next_out (.inl hn)]
    go_enter Try.func11, Try.ntmps11
    go_wp2
    go_ret3
    exact ⟨rfl, rfl⟩
  obtain ⟨q, rfl⟩ := Int.eq_ofNat_of_zero_le (by omega : 0 ≤ p)
  by_cases h8 : s.size < q + 8
  · rw [next_out (.inr (by rw [size_list]; omega))]
    have hz : (s.size : Int) - (q : Int) < 8 := by omega
    go_enter Try.func11, Try.ntmps11
    go_wp2
    go_ret3
    exact ⟨rfl, rfl⟩
  have hz : ¬ (s.size : Int) - (q : Int) < 8 := by omega
  have HG1 := Lib.hid (fun w => getNumber_any s hs q (by omega) w)
  have HG2 := Lib.hid (fun w => getNumber_any s hs (q + 4) (by omega) w)
  have HF : Hid (nextF s.data.toList (q : Int) = if 65536 < fourV (s.data.toList.drop q) ∨ s.size < q + 8 + fourV (s.data.toList.drop q) then none else
      if fourV (s.data.toList.drop (q + 4)) = crcL (s.extract (q + 8) (q + 8 + fourV (s.data.toList.drop q))).data.toList then some (q + 8, q + 8 + fourV (s.data.toList.drop q)) else none) := Lib.hid (by
    unfold nextF
    rw [if_neg (by rw [size_list]; omega), Int.toNat_natCast, size_list, ext_list]
    congr 1
    by_cases hc : fourV (s.data.toList.drop (q + 4)) = crcL (cut s.data.toList (q + 8) (q + 8 + fourV (s.data.toList.drop q)))
    · rw [if_pos hc, if_pos ((four_cut _ _ _ (by rw [size_list]; omega) (crcL_lt _)).2 hc)]
    · rw [if_neg hc, if_neg (fun h => hc ((four_cut _ _ _ (by rw [size_list]; omega) (crcL_lt _)).1 h))])
  have hv1 := fourV_lt (s.data.toList.drop q)
  have hv2 := fourV_lt (s.data.toList.drop (q + 4))
  obtain ⟨a, ha⟩ : ∃ a, fourV (s.data.toList.drop q) = a := ⟨_, rfl⟩
  obtain ⟨b, hb⟩ : ∃ b, fourV (s.data.toList.drop (q + 4)) = b := ⟨_, rfl⟩
  rw [ha] at HG1 HF hv1
  rw [hb] at HG2 HF hv2
  have HG2' : Hid (∀ w, Calls Try.prog 20 #[.string s, .int .i64 ((q : Int) + 4)] w fun e w' => e = .returned (.int .u32 (b : Nat)) ∧ w = w') := Lib.hid fun w => HG2.out w
  clear ha hb HG2
  by_cases hbig : 65536 < a
  · rw [HF.out, if_pos (.inl hbig)]
    have hbz : (65536 : Int) < (a : Int) := by omega
    clear HF
    go_enter Try.func11, Try.ntmps11
    go_wp2_with fail
    refine (HG1.out _).mono ?_
    rintro e w1 ⟨rfl, rfl⟩
    go_wp2_with fail
    refine (HG2'.out _).mono ?_
    rintro e w1 ⟨rfl, rfl⟩
    go_wp2
    go_ret3
    exact ⟨rfl, rfl⟩
  have hbz : ¬ (65536 : Int) < (a : Int) := by omega
  by_cases hlong : s.size < q + 8 + a
  · rw [HF.out, if_pos (.inr hlong)]
    have hlz : (s.size : Int) - ((q : Int) + 8) < (a : Int) := by omega
    clear HF
    go_enter Try.func11, Try.ntmps11
    go_wp2_with fail
    refine (HG1.out _).mono ?_
    rintro e w1 ⟨rfl, rfl⟩
    go_wp2_with fail
    refine (HG2'.out _).mono ?_
    rintro e w1 ⟨rfl, rfl⟩
    go_wp2
    go_ret3
    exact ⟨rfl, rfl⟩
  have hlz : ¬ (s.size : Int) - ((q : Int) + 8) < (a : Int) := by omega
  rw [HF.out, if_neg (by omega)]
  clear HF
  have HS : Hid (∀ w, Calls Try.prog 16 #[.string (s.extract (q + 8) (q + 8 + a))] w fun e w' => e = .returned (.int .u32 (crcL (s.extract (q + 8) (q + 8 + a)).data.toList : Nat)) ∧ w = w') :=
    Lib.hid fun w => sum_any _ (by rw [ByteArray.size_extract]; omega) w
  obtain ⟨c, hc⟩ : ∃ c, crcL (s.extract (q + 8) (q + 8 + a)).data.toList = c := ⟨_, rfl⟩
  rw [hc] at HS ⊢
  clear hc
  by_cases hbc : b = c
  · rw [if_pos hbc]
    subst hbc
    go_enter Try.func11, Try.ntmps11
    go_wp2_with fail
    refine (HG1.out _).mono ?_
    rintro e w1 ⟨rfl, rfl⟩
    go_wp2_with fail
    refine (HG2'.out _).mono ?_
    rintro e w1 ⟨rfl, rfl⟩
    go_wp2_with fail
    refine (HS.out _).mono ?_
    rintro e w1 ⟨rfl, rfl⟩
    go_wp2
    go_ret3
    exact ⟨by go_num, rfl⟩
  · rw [if_neg hbc]
    have hne : ((c : Int) == (b : Int)) = false := by rw [beq_eq_false_iff_ne]; omega
    have hne' : ((c : Int) != (b : Int)) = true := by rw [bne_iff_ne]; omega
    have hne2 : ¬ (c : Int) = (b : Int) := by omega
    go_enter Try.func11, Try.ntmps11
    go_wp2_with fail
    refine (HG1.out _).mono ?_
    rintro e w1 ⟨rfl, rfl⟩
    go_wp2_with fail
    refine (HG2'.out _).mono ?_
    rintro e w1 ⟨rfl, rfl⟩
    go_wp2_with fail
    refine (HS.out _).mono ?_
    rintro e w1 ⟨rfl, rfl⟩
    go_wp2
    go_ret3
    exact ⟨by go_num, rfl⟩
end Go.Proofs.Ytlifobfbaiabgaa.Frame
