/- Proved: demesnelaw08.FrameLinear answers true for every three texts, and leaves them as they were. No condition. -/
import Derived.Test.YtlifobfbaiabgaaEnd
import Derived.Test.YtlifobfbaiabgaaFExam
import Derived.Test.YtlifobfbaiabgaaFByts
import Derived.Deep.RegionHeld3
import Derived.Deep.QuietTactic
import Derived.BigQuiet
import Derived.Deep.DeepCutAuto
namespace Go.Proofs.Ytlifobfbaiabgaa.frameLinear
open Go.ChangeShapes Go.WideShapes Go.ChangeAt Go.RowKit
open Go.Proofs.Ytlifobfbaiabgaa.Frame

theorem min3 (a b c : Nat) : ∃ n : Nat, (if (c : Int) < (if (b : Int) < (a : Int) then (b : Int) else (a : Int)) then (c : Int) else (if (b : Int) < (a : Int) then (b : Int) else (a : Int))) = (n : Int) ∧ n ≤ a ∧ n ≤ b ∧ n ≤ c := by
  by_cases h1 : (b : Int) < (a : Int)
  · by_cases h2 : (c : Int) < (b : Int)
    · exact ⟨c, by simp [h1, h2], by omega, by omega, by omega⟩
    · exact ⟨b, by simp [h1, h2], by omega, by omega, by omega⟩
  · by_cases h2 : (c : Int) < (a : Int)
    · exact ⟨c, by simp [h1, h2], by omega, by omega, by omega⟩
    · exact ⟨a, by simp [h1, h2], by omega, by omega, by omega⟩
/-- So many places of the row filled. -/
def part (T : List UInt8) (n k : Nat) : List UInt8 := T.take k ++ List.replicate (n - k) 0
theorem part_len {T : List UInt8} {n k : Nat} (hT : T.length = n) (hk : k ≤ n) : (part T n k).length = n := by simp [part]; omega
theorem part_next {T : List UInt8} {n k : Nat} (hT : T.length = n) (hk : k < n) : (part T n k).set k T[k] = part T n (k + 1) := by
  unfold part
  have e : (T.take k).length = k := by simp; omega
  rw [List.set_append_right _ _ (by omega), e, Nat.sub_self, show n - k = (n - (k + 1)) + 1 by omega, List.replicate_succ, List.set_cons_zero, List.take_succ_eq_append_getElem (by omega), List.append_assoc]
  rfl
theorem xor3_int (x y z : UInt8) : bits .xor .u8 (bits .xor .u8 (x.toNat : Int) (y.toNat : Int)) (z.toNat : Int) = ((x ^^^ y ^^^ z).toNat : Int) := by rw [xor_int, xor_int]
theorem xor3_u32 {x y z : Nat} (hx : x < 4294967296) (hy : y < 4294967296) (hz : z < 4294967296) : bits .xor .u32 (bits .xor .u32 (x : Int) (y : Int)) (z : Int) = ((x ^^^ y ^^^ z : Nat) : Int) := by
  rw [u32_xor_nat _ _ hx hy, u32_xor_nat _ _ (xor_lt hx hy) hz]
theorem head_list (s : ByteArray) (n : Nat) : (s.extract 0 n).data.toList = s.data.toList.take n := by
  rw [ext_list]; unfold cut; simp

theorem three_row (a b c : ByteArray) (n : Nat) (ha : n ≤ a.size) (hb : n ≤ b.size) (hc : n ≤ c.size) :
    ∃ T : List UInt8, T.length = n ∧ Hid (crcL T = crcL (a.data.toList.take n) ^^^ crcL (b.data.toList.take n) ^^^ crcL (c.data.toList.take n)) ∧
      Hid (∀ k (_ : k < n) (h0 : k < T.length) (h1 : k < a.size) (h2 : k < b.size) (h3 : k < c.size), T[k] = a[k] ^^^ b[k] ^^^ c[k]) := by
  have la : (a.data.toList.take n).length = n := by rw [List.length_take, size_list]; omega
  have lb : (b.data.toList.take n).length = n := by rw [List.length_take, size_list]; omega
  have lc : (c.data.toList.take n).length = n := by rw [List.length_take, size_list]; omega
  refine ⟨xorL (xorL (a.data.toList.take n) (b.data.toList.take n)) (c.data.toList.take n), by rw [xorL_len (by rw [xorL_len (by omega)]; omega), xorL_len (by omega), la], Lib.hid (crc_three (by omega) (by omega)), Lib.hid ?_⟩
  intro k _ h0 h1 h2 h3
  simp [xorL]
  rfl

set_option maxRecDepth 100000 in
set_option maxHeartbeats 2000000 in
theorem walk (a : ByteArray) (ha : a.size ≤ 140737488351232) (b : ByteArray) (_hb : b.size ≤ 140737488351232) (c : ByteArray) (_hc : c.size ≤ 140737488351232) (w : World) :
    Calls Try.prog 6 #[.string a, .string b, .string c] w fun e w' => e = .returned (.bool true) ∧ Below w.heap.size w w' := by
  obtain ⟨n, hmin, hna, hnb, hnc⟩ := min3 a.size b.size c.size
  go_enter Try.func6, Try.ntmps6
  go_wp2_with fail
  refine (examples_any _).mono ?_
  rintro e w1 ⟨rfl, hw1⟩
  obtain ⟨w2, hmk, hB2, hw2⟩ := byts_make w1 n (by omega)
  have hw2' := grows hw1 hw2
  have hgB : w.heap.size ≤ w1.heap.size := hw1.size
  obtain ⟨g, hg⟩ : ∃ g, w1.heap.size = g := ⟨_, rfl⟩
  rw [hg] at hmk hB2 hgB
  clear hw1 hw2
  go_upto_region 4 with fail
  go_cut [8] (fun v wx => v = .int .i64 (n : Nat) ∧ wx = w1)
  case first =>
    clear hmk hB2 hw2'
    go_wp2_with fail
    all_goals
      go_meet
      refine ⟨?_, rfl⟩
      rw [← hmin]
      congr 1
      split <;> split <;> omega
  case rest =>
    obtain ⟨rfl, rfl⟩ := hcut
    go_wp2
    clear hmk hmin
    obtain ⟨T, hTl, HTc, HTk⟩ := three_row a b c n hna hnb hnc
    rw [show List.replicate n 0 = part T n 0 by simp [part]] at hB2
    go_loopw [10] (fun i wr => ∃ k : Nat, k ≤ n ∧ i = .int .i64 k ∧ Byts wr g (part T n k) ∧ Below w.heap.size w wr) (fun i _ => n - (intOf i).toNat)
    case atStart => exact ⟨0, Nat.zero_le _, rfl, hB2, hw2'⟩
    case round =>
      clear hB2 hw2'
      obtain ⟨k, hk, rfl, hB, hb⟩ := hrel
      by_cases hlt : k < n
      · have hltz : (k : Int) < (n : Int) := by omega
        have hka : k < a.size := by omega
        have hkb : k < b.size := by omega
        have hkc : k < c.size := by omega
        obtain ⟨d, hd⟩ : ∃ d, (part T n k)[k]? = some d := ⟨_, List.getElem?_eq_getElem (by rw [part_len hTl hk]; exact hlt)⟩
        obtain ⟨hc0, hf0⟩ := hB.at hd
        have hkT : k < T.length := by omega
        have e := HTk.out k hlt hkT hka hkb hkc
        have HN := Lib.hid (hB.set T[k] (k := k) (by rw [part_len hTl hk]; exact hlt))
        rw [part_next hTl hlt] at HN
        have HB := Lib.hid (hb.setCell (p := (⟨g, k, none⟩ : Addr)) hgB (.int .u8 (T[k].toNat : Int)))
        have h3 := xor3_int (a[k]) (b[k]) (c[k])
        obtain ⟨x, hx⟩ : ∃ x, a[k] = x := ⟨_, rfl⟩
        obtain ⟨y, hy⟩ : ∃ y, b[k] = y := ⟨_, rfl⟩
        obtain ⟨z, hz⟩ : ∃ z, c[k] = z := ⟨_, rfl⟩
        rw [hx, hy, hz] at h3 e
        rw [e] at HN HB
        obtain ⟨q, hq⟩ : ∃ q, x ^^^ y ^^^ z = q := ⟨_, rfl⟩
        rw [hq] at h3 HN HB
        clear hB hb hd e hkT hq
        go_wp2
        go_region
        go_wp2
        go_roundw
        case rel => exact ⟨k + 1, by omega, by go_num, HN.out.below ((Below.refl _ _).drew), HB.out.drew⟩
        case measure => simp [intOf]; omega
      · obtain rfl : k = n := by omega
        have e : part T k k = T := by unfold part; rw [List.take_of_length_le (by omega)]; simp
        rw [e] at hB
        have HB := Lib.hid hB
        have hcv : ∀ m, (convert 26 9 (.slice (some ⟨g, 0, none⟩) k k)).run Try.prog (wr.drewN m) = .ok (.string (str T)) (wr.drewN m) := fun m => (HB.out.below (below_drewN (Below.refl _ _) m)).conv hTl
        have S0 : Hid (∀ w, Calls Try.prog 16 #[.string (str T)] w fun e w' => e = .returned (.int .u32 (crcL T : Nat)) ∧ w = w') := Lib.hid fun w => by
          have := sum_any (str T) (by rw [str_size]; omega) w
          rw [str_toList] at this
          exact this
        have S1 := Lib.hid (fun w => sum_any (a.extract 0 k) (by rw [ByteArray.size_extract]; omega) w)
        have S2 := Lib.hid (fun w => sum_any (b.extract 0 k) (by rw [ByteArray.size_extract]; omega) w)
        have S3 := Lib.hid (fun w => sum_any (c.extract 0 k) (by rw [ByteArray.size_extract]; omega) w)
        rw [head_list] at S1 S2 S3
        have h32 := xor3_u32 (crcL_lt (a.data.toList.take k)) (crcL_lt (b.data.toList.take k)) (crcL_lt (c.data.toList.take k))
        rw [← HTc.out] at h32
        obtain ⟨s0, h0⟩ : ∃ x, crcL T = x := ⟨_, rfl⟩
        obtain ⟨s1, h1⟩ : ∃ x, crcL (a.data.toList.take k) = x := ⟨_, rfl⟩
        obtain ⟨s2, h2⟩ : ∃ x, crcL (b.data.toList.take k) = x := ⟨_, rfl⟩
        obtain ⟨s3, h3⟩ : ∃ x, crcL (c.data.toList.take k) = x := ⟨_, rfl⟩
        rw [h0] at S0 h32
        rw [h1] at S1 h32
        rw [h2] at S2 h32
        rw [h3] at S3 h32
        clear hB e h0 h1 h2 h3 HTc HTk
        go_wp2
        go_quiet (first
          | ((go_at_call 16; (with_reducible exact Calls.quiet_of_same ((S0.out _).mono fun _ _ h => ⟨h.1, h.2.symm⟩))))
          | ((go_at_call 16; (with_reducible exact Calls.quiet_of_same ((S1.out _).mono fun _ _ h => ⟨h.1, h.2.symm⟩))))
          | ((go_at_call 16; (with_reducible exact Calls.quiet_of_same ((S2.out _).mono fun _ _ h => ⟨h.1, h.2.symm⟩))))
          | ((go_at_call 16; (with_reducible exact Calls.quiet_of_same ((S3.out _).mono fun _ _ h => ⟨h.1, h.2.symm⟩)))))
        have hb' := below_drewN hb nq
        go_wp2
        go_ret
        exact ⟨rfl, hb'⟩

set_option maxRecDepth 100000 in
theorem lifted (os : Os) (started : os.Started) (H : Type) (enc : TypeId × Value → H) :
    ReturnsInHanded {} Try.checked os 6 .any (Rows.frameLinearSpec.pre6 enc Try.prog Try.f6 Rows.frameLinearRow.domain false) (Rows.frameLinearSpec.post enc Try.prog Try.f6 false true false false) := by
  refine returnsInHanded_of_change_sized (C := Try.checked) Ends.own started (by kernel_rfl) Try.func6
    (ChangeSpec.witness6 (enc := enc) (C := Try.checked) false ⟨#[], #[.string ⟨#[]⟩, .string ⟨#[]⟩, .string ⟨#[]⟩], []⟩ 8 (by kernel_rfl) (by kernel_rfl) (by kernel_rfl) (by kernel_rfl)) ?_
  intro W base args ds gs before hval0 hW _ hsz0 _
  have hval : ∀ (j : Nat) t v, Try.f6.params[j]? = some t → args[j]? = some v → Value.okWide Try.prog W .any base t v := hval0
  have hsz : (DataW.weightsEach Try.prog (Try.f6.params.toList ++ Rows.frameLinearSpec.plain.varTypes Try.prog) (ds ++ gs)).all (· ≤ reachBytes) = true := hsz0
  have hW' := hW
  obtain ⟨p, q, hA0, hV, rfl, hfz, hnd⟩ := hW
  have hA : DataW.TrodAll enc Try.prog W 0 (fun _ => true) true Try.f6.params.toList args.toList ds p := hA0
  rw [Try.params6] at hA hval hsz
  obtain ⟨v0, vs0, d0, ds0, p0, q0, hargs, rfl, rfl, h0, r0⟩ := trodAll_cons hA
  obtain ⟨v1, vs1, d1, ds1, p1, q1, rfl, rfl, rfl, h1, r1⟩ := trodAll_cons r0
  obtain ⟨v2, vs2, d2, ds2, p2, q2, rfl, rfl, rfl, h2, r2⟩ := trodAll_cons r1
  obtain ⟨rfl, rfl, rfl⟩ := trodAll_nil r2
  obtain rfl : args = #[v0, v1, v2] := by cases args; simp_all
  obtain ⟨rfl, rfl⟩ := trodVars_none hV
  obtain ⟨a0, rfl, rfl, rfl, w0⟩ := Go.ChangeMaps.open_string Try.underlying9 (hval 0 9 v0 rfl rfl) h0
  obtain ⟨a1, rfl, rfl, rfl, w1⟩ := Go.ChangeMaps.open_string Try.underlying9 (hval 1 9 v1 rfl rfl) h1
  obtain ⟨a2, rfl, rfl, rfl, w2⟩ := Go.ChangeMaps.open_string Try.underlying9 (hval 2 9 v2 rfl rfl) h2
  have b0 : a0.size ≤ 140737488351232 := by have := sized_string hsz (j := 0) rfl rfl; rw [Array.length_toList] at this; exact this
  have b1 : a1.size ≤ 140737488351232 := by have := sized_string hsz (j := 1) rfl rfl; rw [Array.length_toList] at this; exact this
  have b2 : a2.size ≤ 140737488351232 := by have := sized_string hsz (j := 2) rfl rfl; rw [Array.length_toList] at this; exact this
  refine (walk a0 b0 a1 b1 a2 b2 W).mono fun e W' ⟨he, hb⟩ => ?_
  subst he
  exact ⟨_, rfl, Ends.law_end Ends.laidOut (by rw [Try.params6]; decide +kernel) rfl (by kernel_rfl) Try.underlying4 hW' rfl hb⟩

/-- The statement. -/
theorem proved : Rows.FrameLinearSaid :=
  OpenClaim.holds_of_wide 6 Try.f6 rfl rfl rfl rfl rfl rfl rfl ⟨rfl, rfl, rfl, rfl, rfl⟩ rfl rfl rfl rfl rfl (by kernel_rfl) Try.func6 (by kernel_rfl)
    (of_decide_eq_true (by kernel_rfl)) (by unfold Func.isWrapper; first | (rw [if_pos (by decide +kernel)]; kernel_rfl) | (rw [if_neg (by decide +kernel)]; exact ⟨rfl, rfl⟩))
    (fun os started H enc _ => lifted os started H enc)
end Go.Proofs.Ytlifobfbaiabgaa.frameLinear
