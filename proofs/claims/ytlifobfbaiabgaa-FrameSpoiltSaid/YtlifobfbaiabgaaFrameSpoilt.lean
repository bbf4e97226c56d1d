/- Proved: demesnelaw08.FrameSpoilt answers true for every text, place and bits, and leaves them as they were. No condition. -/
import Derived.Test.YtlifobfbaiabgaaEnd
import Derived.Test.YtlifobfbaiabgaaFExam
import Derived.Test.YtlifobfbaiabgaaFByts
import Derived.Deep.RegionHeld3
import Derived.Deep.QuietTactic
import Derived.BigQuiet
import Derived.Deep.DeepCutAuto
namespace Go.Proofs.Ytlifobfbaiabgaa.frameSpoilt
open Go.ChangeShapes Go.WideShapes Go.ChangeAt Go.RowKit
open Go.Proofs.Ytlifobfbaiabgaa.Frame

/-- Four bytes in a row turned. -/
def turn4 (L : List UInt8) (k : Nat) (e0 e1 e2 e3 : UInt8) : List UInt8 :=
  L.take k ++ [L.getD k 0 ^^^ e0, L.getD (k + 1) 0 ^^^ e1, L.getD (k + 2) 0 ^^^ e2, L.getD (k + 3) 0 ^^^ e3] ++ L.drop (k + 4)
theorem apart4 (L : List UInt8) (k : Nat) (h : k + 4 ≤ L.length) : L = L.take k ++ [L.getD k 0, L.getD (k + 1) 0, L.getD (k + 2) 0, L.getD (k + 3) 0] ++ L.drop (k + 4) := by
  have e : ∀ j, j < L.length → L.drop j = L.getD j 0 :: L.drop (j + 1) := fun j hj => by
    rw [List.drop_eq_getElem_cons hj, List.getD_eq_getElem?_getD, List.getElem?_eq_getElem hj]; rfl
  conv => lhs; rw [← List.take_append_drop k L, e k (by omega), e (k + 1) (by omega), e (k + 2) (by omega), e (k + 3) (by omega)]
  rw [List.append_assoc]
  rfl
theorem set_four (P Q : List UInt8) (a0 a1 a2 a3 d0 d1 d2 d3 : UInt8) (k : Nat) (h : P.length = k) : ((((P ++ [a0, a1, a2, a3] ++ Q).set k d0).set (k + 1) d1).set (k + 2) d2).set (k + 3) d3 = P ++ [d0, d1, d2, d3] ++ Q := by
  subst h
  rw [List.append_assoc, List.append_assoc]
  simp only [List.set_append_right _ _ (Nat.le_refl _), List.set_append_right _ _ (Nat.le_add_right _ _), Nat.sub_self, Nat.add_sub_cancel_left]
  rfl
theorem turn4_sets (L : List UInt8) (k : Nat) (e0 e1 e2 e3 : UInt8) (h : k + 4 ≤ L.length) :
    (((L.set k (L.getD k 0 ^^^ e0)).set (k + 1) (L.getD (k + 1) 0 ^^^ e1)).set (k + 2) (L.getD (k + 2) 0 ^^^ e2)).set (k + 3) (L.getD (k + 3) 0 ^^^ e3) = turn4 L k e0 e1 e2 e3 := by
  have := set_four (L.take k) (L.drop (k + 4)) (L.getD k 0) (L.getD (k + 1) 0) (L.getD (k + 2) 0) (L.getD (k + 3) 0) (L.getD k 0 ^^^ e0) (L.getD (k + 1) 0 ^^^ e1) (L.getD (k + 2) 0 ^^^ e2) (L.getD (k + 3) 0 ^^^ e3) k (by rw [List.length_take]; omega)
  rw [← apart4 L k h] at this
  exact this
theorem turn4_len (L : List UInt8) (k : Nat) (e0 e1 e2 e3 : UInt8) (h : k + 4 ≤ L.length) : (turn4 L k e0 e1 e2 e3).length = L.length := by
  unfold turn4; simp; omega
theorem turn4_other (L : List UInt8) (k : Nat) (e0 e1 e2 e3 : UInt8) (h : k + 4 ≤ L.length) (hn : ¬ (e0 = 0 ∧ e1 = 0 ∧ e2 = 0 ∧ e3 = 0)) : crcL (turn4 L k e0 e1 e2 e3) ≠ crcL L := by
  intro hc
  unfold turn4 at hc
  conv at hc => rhs; rw [apart4 L k h]
  obtain ⟨h0, h1, h2, h3⟩ := crc_spoilt rfl hc
  have z : ∀ x e : UInt8, x ^^^ e = x → e = 0 := fun x e hx => by
    have := congrArg (fun y => x ^^^ y) hx
    simpa [← UInt8.xor_assoc] using this
  exact hn ⟨z _ _ h0, z _ _ h1, z _ _ h2, z _ _ h3⟩
/-- The bits' bytes, the greatest first. -/
theorem bits_none (u : Nat) (hu : u < 4294967296) (h : (u / 16777216).toUInt8 = 0 ∧ (u / 65536).toUInt8 = 0 ∧ (u / 256).toUInt8 = 0 ∧ u.toUInt8 = 0) : u = 0 := by
  obtain ⟨h0, h1, h2, h3⟩ := h
  have := four_eq hu (by omega : 0 < 4294967296) (by unfold four; rw [h0, h1, h2, h3]; rfl)
  exact this
theorem below4 (L : List UInt8) (g k : Nat) (e0 e1 e2 e3 : UInt8) (w : World) (h : k + 4 ≤ L.length) (hB : Byts w g L) :
    Byts ((((w.setCell ⟨g, k, none⟩ (.int .u8 ((L.getD k 0 ^^^ e0).toNat : Int))).setCell ⟨g, k + 1, none⟩ (.int .u8 ((L.getD (k + 1) 0 ^^^ e1).toNat : Int))).setCell ⟨g, k + 2, none⟩ (.int .u8 ((L.getD (k + 2) 0 ^^^ e2).toNat : Int))).setCell ⟨g, k + 3, none⟩ (.int .u8 ((L.getD (k + 3) 0 ^^^ e3).toNat : Int))) g (turn4 L k e0 e1 e2 e3) := by
  rw [← turn4_sets L k e0 e1 e2 e3 h]
  exact (((hB.set _ (by omega)).set _ (by simp; omega)).set _ (by simp; omega)).set _ (by simp; omega)
theorem xor_bits (l : UInt8) {e : UInt8} {n : Nat} {z : Int} (h : e = n.toUInt8) (hz : z = ((n % 256 : Nat) : Int)) : bits .xor .u8 (l.toNat : Int) z = ((l ^^^ e).toNat : Int) := by
  subst h
  rw [hz, ← xor_int]
  congr 1
theorem get_at {L : List UInt8} {k : Nat} (h : k < L.length) : L[k]? = some (L.getD k 0) := by rw [List.getD_eq_getElem?_getD, List.getElem?_eq_getElem h]; rfl

set_option maxRecDepth 100000 in
set_option maxHeartbeats 2000000 in
theorem walk (s : ByteArray) (hs : s.size ≤ 140737488351232) (at_ : Int) (ha0 : 0 ≤ at_) (ha1 : at_ ≤ 65535) (bits_ : Int) (hb0 : 0 ≤ bits_) (hb1 : bits_ ≤ 4294967295) (w : World) :
    Calls Try.prog 5 #[.string s, .int .u16 at_, .int .u32 bits_] w fun e w' => e = .returned (.bool true) ∧ Below w.heap.size w w' := by
  obtain ⟨u, rfl⟩ := Int.eq_ofNat_of_zero_le hb0
  obtain ⟨r, rfl⟩ := Int.eq_ofNat_of_zero_le ha0
  go_enter Try.func5, Try.ntmps5
  go_wp2_with fail
  refine (examples_any _).mono ?_
  rintro e w1 ⟨rfl, hw1⟩
  go_upto_region 4 with fail
  go_cut [0] (fun v wx => ∃ S : ByteArray, v = .string S ∧ S.size ≤ 2000 ∧ wx = w1)
  case first =>
    by_cases hbig : 2000 < s.size
    · have hbz : (2000 : Int) < (s.size : Int) := by omega
      go_wp2_with fail
      go_meet
      exact ⟨_, rfl, by rw [ByteArray.size_extract]; omega, rfl⟩
    · have hbz : ¬ (2000 : Int) < (s.size : Int) := by omega
      go_wp2_with fail
      go_meet
      exact ⟨_, rfl, by omega, rfl⟩
  case rest =>
    obtain ⟨S, rfl, hS, rfl⟩ := hcut
    clear hs
    by_cases h4 : S.size < 4
    · have hz : (S.size : Int) < 4 := by omega
      go_wp2
      go_ret
      exact ⟨rfl, hw1⟩
    have hz : ¬ (S.size : Int) < 4 := by omega
    by_cases hu : u = 0
    · subst hu
      go_wp2
      go_ret
      exact ⟨rfl, hw1⟩
    have huz : ¬ (u : Int) = 0 := by omega
    have huz2 : ((u : Int) == 0) = false := by rw [beq_eq_false_iff_ne]; exact huz
    obtain ⟨w2, G, hcv0, hG, hB2, hw2⟩ := byts_of wc S
    obtain ⟨g, hg⟩ : ∃ g, wc.heap.size = g := ⟨_, rfl⟩
    have hgB : w.heap.size ≤ g := by rw [← hg]; exact hw1.size
    rw [hg] at hcv0 hB2
    have hb2 := grows hw1 hw2
    clear hw1 hw2
    have hdz : ¬ (S.size : Int) - 3 = 0 := by omega
    obtain ⟨k, hk⟩ : ∃ k, r % (S.size - 3) = k := ⟨_, rfl⟩
    have hk4 : k + 4 ≤ S.size := by have := Nat.mod_lt r (by omega : 0 < S.size - 3); omega
    have hkz : (r : Int) % ((S.size : Int) - 3) = (k : Int) := by rw [← hk, Int.natCast_emod, Int.natCast_sub (by omega)]; rfl
    go_upto_region 9 with fail
    rw [hkz]
    clear hkz hk hcv0 hdz
    have hL : S.data.toList.length = S.size := size_list S
    obtain ⟨e0, he0⟩ : ∃ e, (u / 16777216).toUInt8 = e := ⟨_, rfl⟩
    obtain ⟨e1, he1⟩ : ∃ e, (u / 65536).toUInt8 = e := ⟨_, rfl⟩
    obtain ⟨e2, he2⟩ : ∃ e, (u / 256).toUInt8 = e := ⟨_, rfl⟩
    obtain ⟨e3, he3⟩ : ∃ e, u.toUInt8 = e := ⟨_, rfl⟩
    have HC := Lib.hid (turn4_other S.data.toList k e0 e1 e2 e3 (by omega) (fun h => hu (bits_none u (by omega) (by rw [he0, he1, he2, he3]; exact h))))
    have HB4 := Lib.hid (below4 S.data.toList g k e0 e1 e2 e3 w2 (by omega) hB2)
    have hT4 := turn4_len S.data.toList k e0 e1 e2 e3 (by omega)
    have f0 := xor_bits (S.data.toList.getD k 0) (e := e0) (n := u / 16777216) (z := (u : Int) / 16777216) (by rw [← he0]) (by omega)
    have f1 := xor_bits (S.data.toList.getD (k + 1) 0) (e := e1) (n := u / 65536) (z := (u : Int) / 65536 % 256) (by rw [← he1]) (by omega)
    have f2 := xor_bits (S.data.toList.getD (k + 2) 0) (e := e2) (n := u / 256) (z := (u : Int) / 256 % 256) (by rw [← he2]) (by omega)
    have f3 := xor_bits (S.data.toList.getD (k + 3) 0) (e := e3) (n := u) (z := (u : Int) % 256) (by rw [← he3]) (by omega)
    have c0 := hB2.at (get_at (L := S.data.toList) (k := k) (by omega))
    have hB3 := hB2.set (S.data.toList.getD k 0 ^^^ e0) (k := k) (by omega)
    have c1 := hB3.at (i := k + 1) (c := S.data.toList.getD (k + 1) 0) (by rw [List.getElem?_set_ne (by omega)]; exact get_at (by omega))
    have hB4 := hB3.set (S.data.toList.getD (k + 1) 0 ^^^ e1) (k := k + 1) (by simp; omega)
    have c2 := hB4.at (i := k + 2) (c := S.data.toList.getD (k + 2) 0) (by rw [List.getElem?_set_ne (by omega), List.getElem?_set_ne (by omega)]; exact get_at (by omega))
    have hB5 := hB4.set (S.data.toList.getD (k + 2) 0 ^^^ e2) (k := k + 2) (by simp; omega)
    have c3 := hB5.at (i := k + 3) (c := S.data.toList.getD (k + 3) 0) (by rw [List.getElem?_set_ne (by omega), List.getElem?_set_ne (by omega), List.getElem?_set_ne (by omega)]; exact get_at (by omega))
    have hb6 := (((hb2.setCell (p := (⟨g, k, none⟩ : Addr)) hgB (.int .u8 ((S.data.toList.getD k 0 ^^^ e0).toNat : Int))).setCell (p := (⟨g, k + 1, none⟩ : Addr)) hgB (.int .u8 ((S.data.toList.getD (k + 1) 0 ^^^ e1).toNat : Int))).setCell (p := (⟨g, k + 2, none⟩ : Addr)) hgB (.int .u8 ((S.data.toList.getD (k + 2) 0 ^^^ e2).toNat : Int))).setCell (p := (⟨g, k + 3, none⟩ : Addr)) hgB (.int .u8 ((S.data.toList.getD (k + 3) 0 ^^^ e3).toNat : Int))
    clear hB2 hB3 hB4 hB5 hb2 he0 he1 he2 he3
    obtain ⟨T, hT⟩ : ∃ T, turn4 S.data.toList k e0 e1 e2 e3 = T := ⟨_, rfl⟩
    rw [hT] at HC HB4 hT4
    obtain ⟨x0, hx0⟩ : ∃ x, S.data.toList.getD k 0 ^^^ e0 = x := ⟨_, rfl⟩
    obtain ⟨x1, hx1⟩ : ∃ x, S.data.toList.getD (k + 1) 0 ^^^ e1 = x := ⟨_, rfl⟩
    obtain ⟨x2, hx2⟩ : ∃ x, S.data.toList.getD (k + 2) 0 ^^^ e2 = x := ⟨_, rfl⟩
    obtain ⟨x3, hx3⟩ : ∃ x, S.data.toList.getD (k + 3) 0 ^^^ e3 = x := ⟨_, rfl⟩
    rw [hx0] at HB4 f0 hb6 c1 c2 c3
    rw [hx1] at HB4 f1 hb6 c2 c3
    rw [hx2] at HB4 f2 hb6 c3
    rw [hx3] at HB4 f3 hb6
    obtain ⟨l0, hl0⟩ : ∃ x, S.data.toList.getD k 0 = x := ⟨_, rfl⟩
    obtain ⟨l1, hl1⟩ : ∃ x, S.data.toList.getD (k + 1) 0 = x := ⟨_, rfl⟩
    obtain ⟨l2, hl2⟩ : ∃ x, S.data.toList.getD (k + 2) 0 = x := ⟨_, rfl⟩
    obtain ⟨l3, hl3⟩ : ∃ x, S.data.toList.getD (k + 3) 0 = x := ⟨_, rfl⟩
    rw [hl0] at f0 c0
    rw [hl1] at f1 c1
    rw [hl2] at f2 c2
    rw [hl3] at f3 c3
    clear hT hx0 hx1 hx2 hx3 hl0 hl1 hl2 hl3 e0 e1 e2 e3
    obtain ⟨p0, q0⟩ := c0
    obtain ⟨p1, q1⟩ := c1
    obtain ⟨p2, q2⟩ := c2
    obtain ⟨p3, q3⟩ := c3
    go_upto_region 13 with fail
    clear p0 p1 p2 p3 q0 q1 q2 q3 f0 f1 f2 f3 huz huz2
    obtain ⟨W, hW⟩ : ∃ W, (((w2.setCell ⟨g, k, none⟩ (.int .u8 (x0.toNat : Int))).setCell ⟨g, k + 1, none⟩ (.int .u8 (x1.toNat : Int))).setCell ⟨g, k + 2, none⟩ (.int .u8 (x2.toNat : Int))).setCell ⟨g, k + 3, none⟩ (.int .u8 (x3.toNat : Int)) = W := ⟨_, rfl⟩
    rw [hW] at HB4 hb6 ⊢
    clear hW
    have hPs := str_size (putF S.data.toList)
    rw [putF_len (by omega), hL] at hPs
    have HP := Lib.hid (put_any S (by omega))
    have HZ : Hid (∀ w, Calls Try.prog 11 #[.string ((str (putF S.data.toList)).extract 0 8 ++ str T), .int .i64 0] w fun e w' => e = .returned (.tuple #[.string ⟨#[]⟩, .int .i64 0, .bool false]) ∧ w = w') := Lib.hid fun w => by
      have hz8 : (str (putF S.data.toList)).extract 0 8 ++ str T = str (four S.data.toList.length ++ four (crcL S.data.toList) ++ T ++ []) := by
        rw [← str_of ((str (putF S.data.toList)).extract 0 8), ext_list, str_toList, str_append, putF_eq (by omega), List.append_nil]
        rfl
      have h1 := next_any ((str (putF S.data.toList)).extract 0 8 ++ str T) (by rw [ByteArray.size_append, ByteArray.size_extract, str_size, str_size, hT4, putF_len (by omega)]; omega) 0 (by decide) (by decide) w
      rw [hz8, str_toList, next_spoilt (by omega) hT4 HC.out, ← hz8] at h1
      exact h1
    have S1 : Hid (∀ w, Calls Try.prog 16 #[.string (str T)] w fun e w' => e = .returned (.int .u32 (crcL T : Nat)) ∧ w = w') := Lib.hid fun w => by
      have := sum_any (str T) (by rw [str_size, hT4]; omega) w
      rw [str_toList] at this
      exact this
    have S2 := Lib.hid (fun w => sum_any S (by omega) w)
    have hne : ((crcL T : Int) != (crcL S.data.toList : Int)) = true := by rw [bne_iff_ne]; intro h; exact HC.out (by omega)
    have hne2 : ¬ (crcL T : Int) = (crcL S.data.toList : Int) := fun h => HC.out (by omega)
    obtain ⟨P, hP⟩ : ∃ P, str (putF S.data.toList) = P := ⟨_, rfl⟩
    rw [hP] at HP HZ hPs
    obtain ⟨t1, ht1⟩ : ∃ t, crcL T = t := ⟨_, rfl⟩
    obtain ⟨t2, ht2⟩ : ∃ t, crcL S.data.toList = t := ⟨_, rfl⟩
    rw [ht1] at S1 hne hne2
    rw [ht2] at S2 hne hne2
    have hTs : (str T).size = S.size := by rw [str_size, hT4, hL]
    obtain ⟨Y, hY⟩ : ∃ Y, str T = Y := ⟨_, rfl⟩
    have hcvA : ∀ w, Below W.heap.size W w → (convert 26 9 (.slice (some ⟨g, 0, none⟩) S.size G)).run Try.prog w = .ok (.string Y) w := fun w hb => by
      rw [← hY]; exact (HB4.out.below hb).conv (by rw [hT4, hL])
    have HCV := Lib.hid hcvA
    rw [hY] at HZ S1 hTs
    have hP8 : 8 ≤ P.size := by omega
    have hPz : (P.size : Int) = (S.size : Int) + 8 := by omega
    clear hP ht1 ht2 hY HC hT4 hcvA HB4 hL
    go_wp2_with fail
    refine (HP.out _).mono ?_
    rintro e w5 ⟨rfl, hw5⟩
    have hcv : ∀ m, (convert 26 9 (.slice (some ⟨g, 0, none⟩) S.size G)).run Try.prog (w5.drewN m) = .ok (.string Y) (w5.drewN m) := fun m => HCV.out _ (below_drewN hw5 m)
    have hb7 := grows hb6 hw5
    clear hw5 hb6
    go_wp2
    go_quiet ((go_at_call 11; (with_reducible exact Calls.quiet_of_same ((HZ.out _).mono fun _ _ h => ⟨h.1, h.2.symm⟩))))
    have hb8 := below_drewN hb7 nq
    have hcv8 := hcv nq
    clear hcv HCV hb7
    generalize w5.drewN nq = w8 at hb8 hcv8 ⊢
    go_wp2_with fail
    refine (S1.out _).mono ?_
    rintro e w9 ⟨rfl, rfl⟩
    go_wp2_with fail
    refine (S2.out _).mono ?_
    rintro e w9 ⟨rfl, rfl⟩
    go_wp2
    go_ret
    exact ⟨rfl, hb8⟩

set_option maxRecDepth 100000 in
theorem lifted (os : Os) (started : os.Started) (H : Type) (enc : TypeId × Value → H) :
    ReturnsInHanded {} Try.checked os 5 .any (Rows.frameSpoiltSpec.pre6 enc Try.prog Try.f5 Rows.frameSpoiltRow.domain false) (Rows.frameSpoiltSpec.post enc Try.prog Try.f5 false true false false) := by
  refine returnsInHanded_of_change_sized (C := Try.checked) Ends.own started (by kernel_rfl) Try.func5
    (ChangeSpec.witness6 (enc := enc) (C := Try.checked) false ⟨#[], #[.string ⟨#[]⟩, .int .u16 0, .int .u32 0], []⟩ 8 (by kernel_rfl) (by kernel_rfl) (by kernel_rfl) (by kernel_rfl)) ?_
  intro W base args ds gs before hval0 hW _ hsz0 _
  have hval : ∀ (j : Nat) t v, Try.f5.params[j]? = some t → args[j]? = some v → Value.okWide Try.prog W .any base t v := hval0
  have hsz : (DataW.weightsEach Try.prog (Try.f5.params.toList ++ Rows.frameSpoiltSpec.plain.varTypes Try.prog) (ds ++ gs)).all (· ≤ reachBytes) = true := hsz0
  have hW' := hW
  obtain ⟨p, q, hA0, hV, rfl, hfz, hnd⟩ := hW
  have hA : DataW.TrodAll enc Try.prog W 0 (fun _ => true) true Try.f5.params.toList args.toList ds p := hA0
  rw [Try.params5] at hA hval hsz
  obtain ⟨v0, vs0, d0, ds0, p0, q0, hargs, rfl, rfl, h0, r0⟩ := trodAll_cons hA
  obtain ⟨v1, vs1, d1, ds1, p1, q1, rfl, rfl, rfl, h1, r1⟩ := trodAll_cons r0
  obtain ⟨v2, vs2, d2, ds2, p2, q2, rfl, rfl, rfl, h2, r2⟩ := trodAll_cons r1
  obtain ⟨rfl, rfl, rfl⟩ := trodAll_nil r2
  obtain rfl : args = #[v0, v1, v2] := by cases args; simp_all
  obtain ⟨rfl, rfl⟩ := trodVars_none hV
  obtain ⟨a0, rfl, rfl, rfl, w0⟩ := Go.ChangeMaps.open_string Try.underlying9 (hval 0 9 v0 rfl rfl) h0
  obtain ⟨a1, rfl, rfl, rfl, w1⟩ := open_int Try.underlying23 (hval 1 23 v1 rfl rfl) h1
  obtain ⟨a2, rfl, rfl, rfl, w2⟩ := open_int Try.underlying32 (hval 2 32 v2 rfl rfl) h2
  have b0 : a0.size ≤ 140737488351232 := by have := sized_string hsz (j := 0) rfl rfl; rw [Array.length_toList] at this; exact this
  have b1 := bounds_u16 w1
  have b2 := bounds_u32 w2
  refine (walk a0 b0 a1 b1.1 b1.2 a2 b2.1 b2.2 W).mono fun e W' ⟨he, hb⟩ => ?_
  subst he
  exact ⟨_, rfl, Ends.law_end Ends.laidOut (by rw [Try.params5]; decide +kernel) rfl (by kernel_rfl) Try.underlying4 hW' rfl hb⟩

/-- The statement. -/
theorem proved : Rows.FrameSpoiltSaid :=
  OpenClaim.holds_of_wide 5 Try.f5 rfl rfl rfl rfl rfl rfl rfl ⟨rfl, rfl, rfl, rfl, rfl⟩ rfl rfl rfl rfl rfl (by kernel_rfl) Try.func5 (by kernel_rfl)
    (of_decide_eq_true (by kernel_rfl)) (by unfold Func.isWrapper; first | (rw [if_pos (by decide +kernel)]; kernel_rfl) | (rw [if_neg (by decide +kernel)]; exact ⟨rfl, rfl⟩))
    (fun os started H enc _ => lifted os started H enc)
end Go.Proofs.Ytlifobfbaiabgaa.frameSpoilt
