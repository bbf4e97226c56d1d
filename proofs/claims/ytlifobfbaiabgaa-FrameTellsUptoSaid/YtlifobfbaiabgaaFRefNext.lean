/- What the document's own Next answers of any text and place: the same as the program's; of memory that was there nothing turns. -/
import Derived.Test.YtlifobfbaiabgaaFRefSum
import Derived.Test.YtlifobfbaiabgaaFNext
import Derived.Lib.Walk
import Derived.Deep.RegionHeld3
namespace Go.Proofs.Ytlifobfbaiabgaa.Frame
open Go.RowKit

theorem eq_lists {x y : ByteArray} : (x.toList == y.toList) = decide (x.data.toList = y.data.toList) := by
  rw [Bool.eq_iff_iff, beq_iff_eq, decide_eq_true_iff, ByteArray.toList_eq, ByteArray.toList_eq]
theorem preV_big (l : List UInt8) (k : Nat) (hk : k ≤ 4) : preV l k < 4294967296 := by
  have h1 := preV_lt l k
  have : 256 ^ k ≤ 256 ^ 4 := Nat.pow_le_pow_right (by omega) hk
  omega

set_option maxRecDepth 100000 in
set_option maxHeartbeats 2000000 in
theorem refNext_any (s : ByteArray) (hs : s.size ≤ 4611686018427387904) (p : Int) (hp0 : -9223372036854775808 ≤ p) (hp1 : p ≤ 9223372036854775807) (w : World) :
    Calls Try.prog 12 #[.string s, .int .i64 p] w fun e w' => e = .returned (nextR s (nextF s.data.toList p)) ∧ Below w.heap.size w w' := by
  by_cases hn : p < 0
  · rw [next_out (.inl hn)]
    go_enter Try.func12, Try.ntmps12
    go_wp2
    go_ret3
    exact ⟨rfl, Below.refl _ _⟩
  by_cases hpl : (s.size : Int) < p
  · rw [next_out (.inr (by rw [size_list]; omega))]
    go_enter Try.func12, Try.ntmps12
    go_wp2
    go_ret3
    exact ⟨rfl, Below.refl _ _⟩
  obtain ⟨q, rfl⟩ := Int.eq_ofNat_of_zero_le (by omega : 0 ≤ p)
  have hql : ¬ s.size < q := by omega
  by_cases h8 : s.size < q + 8
  · rw [next_out (.inr (by rw [size_list]; omega))]
    have hz : (s.size : Int) - (q : Int) < 8 := by omega
    go_enter Try.func12, Try.ntmps12
    go_wp2
    go_ret3
    exact ⟨rfl, Below.refl _ _⟩
  have hz : ¬ (s.size : Int) - (q : Int) < 8 := by omega
  have HF : Hid (nextF s.data.toList (q : Int) = if 65536 < fourV (s.data.toList.drop q) ∨ s.size < q + 8 + fourV (s.data.toList.drop q) then none else
      if cut s.data.toList (q + 4) (q + 8) = four (crcL (s.extract (q + 8) (q + 8 + fourV (s.data.toList.drop q))).data.toList) then some (q + 8, q + 8 + fourV (s.data.toList.drop q)) else none) := Lib.hid (by
    unfold nextF
    rw [if_neg (by rw [size_list]; omega), Int.toNat_natCast, size_list, ext_list])
  have HD := Lib.hid (fun k (h : q + k < s.size) => drop_at s q k h)
  have HV : Hid (preV (s.data.toList.drop q) 4 = fourV (s.data.toList.drop q)) := Lib.hid (preV_four _)
  have hv1 := fourV_lt (s.data.toList.drop q)
  have HE := Lib.hid (ext_list s (q + 4) (q + 8))
  obtain ⟨R, hR⟩ : ∃ R, nextF s.data.toList (q : Int) = R := ⟨_, rfl⟩
  rw [hR] at HF ⊢
  clear hR
  obtain ⟨L, hL⟩ : ∃ L, s.data.toList.drop q = L := ⟨_, rfl⟩
  rw [hL] at HF HD HV hv1
  clear hL
  obtain ⟨a, ha⟩ : ∃ a, fourV L = a := ⟨_, rfl⟩
  rw [ha] at HF HV hv1
  clear ha
  go_enter Try.func12, Try.ntmps12
  go_wp2
  go_loopw [7, 8] (fun v i wr => ∃ k u : Nat, k ≤ 4 ∧ i = .int .i64 k ∧ v = .int .i64 (u : Nat) ∧ u = preV L k ∧ w = wr) (fun _ i _ => 4 - (intOf i).toNat)
  case atStart => exact ⟨0, 0, Nat.zero_le _, rfl, rfl, rfl, rfl⟩
  case round =>
    obtain ⟨k, u, hk, rfl, rfl, hu, rfl⟩ := hrel
    have hlu : u < 4294967296 := by rw [hu]; exact preV_big _ _ hk
    have HU := Lib.hid hu
    clear hu
    by_cases hlt : k < 4
    · have hltz : (k : Int) < 4 := by omega
      have hpk : q + k < s.size := by omega
      have HN : Hid (preV L (k + 1) = preV L k * 256 + s[q + k].toNat) := Lib.hid (by rw [preV, HD.out k hpk])
      obtain ⟨d, hd⟩ : ∃ d, s[q + k] = d := ⟨_, rfl⟩
      rw [hd] at HN
      have hdb := d.toNat_lt
      have HY : Hid (u * 256 + d.toNat = preV L (k + 1)) := Lib.hid (by rw [HN.out, HU.out])
      go_wp2
      go_roundw
      case rel => exact ⟨k + 1, u * 256 + d.toNat, by omega, by go_num, by go_num, HY.out, trivial⟩
      case measure => simp [intOf]; omega
    · obtain rfl : k = 4 := by omega
      have hua : u = a := by rw [HU.out, HV.out]
      subst hua
      clear hlt HU HD HV hk
      by_cases hbig : 65536 < u
      · have hR : R = none := by rw [HF.out, if_pos (.inl hbig)]
        clear HF
        subst hR
        have hbz : (65536 : Int) < (u : Int) := by omega
        go_wp2
        go_ret3
        exact ⟨rfl, Below.refl _ _⟩
      have hbz : ¬ (65536 : Int) < (u : Int) := by omega
      by_cases hlong : s.size < q + 8 + u
      · have hR : R = none := by rw [HF.out, if_pos (.inr hlong)]
        clear HF
        subst hR
        have hlz : (s.size : Int) - (q : Int) - 8 < (u : Int) := by omega
        go_wp2
        go_ret3
        exact ⟨rfl, Below.refl _ _⟩
      have hlz : ¬ (s.size : Int) - (q : Int) - 8 < (u : Int) := by omega
      have HG := HF.out
      rw [if_neg (by omega)] at HG
      clear HF
      have HS : Hid (∀ w, Calls Try.prog 17 #[.string (s.extract (q + 8) (q + 8 + u))] w fun e w' => e = .returned (.int .u32 (crcL (s.extract (q + 8) (q + 8 + u)).data.toList : Nat)) ∧ w = w') :=
        Lib.hid fun w => refSum_any _ (by rw [ByteArray.size_extract]; omega) w
      have HP := Lib.hid (four_any (crcL (s.extract (q + 8) (q + 8 + u)).data.toList) (crcL_lt _))
      obtain ⟨c, hc⟩ : ∃ c, crcL (s.extract (q + 8) (q + 8 + u)).data.toList = c := ⟨_, rfl⟩
      rw [hc] at HS HP HG
      clear hc
      have heq : ((s.extract (q + 4) (q + 8)).toList == (str (four c)).toList) = decide (cut s.data.toList (q + 4) (q + 8) = four c) := by rw [eq_lists, HE.out, str_toList]
      have h04 : (0 : Int) ≤ (q : Int) + 4 := by omega
      have h48 : (q : Int) + 4 ≤ (q : Int) + 8 := by omega
      have hw4 : IntKind.i64.wrap ((q : Int) + 4) = (q : Int) + 4 := by rw [IntKind.wrap_i64]; omega
      have hw8 : IntKind.i64.wrap ((q : Int) + 8) = (q : Int) + 8 := by rw [IntKind.wrap_i64]; omega
      have h8s : (q : Int) + 8 ≤ (s.size : Int) := by omega
      have h8u : (q : Int) + 8 ≤ (q : Int) + 8 + (u : Int) := by omega
      have h8t : (q : Int) + 8 + (u : Int) ≤ (s.size : Int) := by omega
      obtain ⟨t, ht⟩ : ∃ t, str (four c) = t := ⟨_, rfl⟩
      rw [ht] at HP heq
      clear ht
      by_cases hbc : cut s.data.toList (q + 4) (q + 8) = four c
      · rw [if_pos hbc] at HG
        rw [decide_eq_true hbc] at heq
        have heq2 : ((s.extract ((q : Int) + 4).toNat ((q : Int) + 8).toNat).toList == t.toList) = true := heq
        clear hbc
        subst HG
        go_wp2
        go_region_held3 (fun _ => True) (trivial) (first
          | (go_at_call 17; refine (HS.out _).mono ?_; rintro e w5 ⟨rfl, rfl⟩)
          | (go_at_call 21; refine (HP.out _).mono ?_; rintro e w6 ⟨rfl, hw6⟩))
        have hb' := (Below.refl w.heap.size w).drew.trans hw6
        go_wp2
        go_ret3
        exact ⟨by go_num, hb'⟩
      · rw [if_neg hbc] at HG
        rw [decide_eq_false hbc] at heq
        have heq2 : ((s.extract ((q : Int) + 4).toNat ((q : Int) + 8).toNat).toList == t.toList) = false := heq
        clear hbc
        subst HG
        go_wp2
        go_region_held3 (fun _ => True) (trivial) (first
          | (go_at_call 17; refine (HS.out _).mono ?_; rintro e w5 ⟨rfl, rfl⟩)
          | (go_at_call 21; refine (HP.out _).mono ?_; rintro e w6 ⟨rfl, hw6⟩))
        have hb' := (Below.refl w.heap.size w).drew.trans hw6
        go_wp2
        go_ret3
        exact ⟨by go_num, hb'⟩
end Go.Proofs.Ytlifobfbaiabgaa.Frame
