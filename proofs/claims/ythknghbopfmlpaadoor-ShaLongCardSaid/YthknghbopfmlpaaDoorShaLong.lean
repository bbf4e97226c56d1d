/-
  demesnelaw06.ShaLong, for every input: a sum has 32 bytes, whatever its text's length is, and is the same again; its digits are 64 (the law answers true, and its arguments read as before).
  Conditions: none beyond the row's own (the reach; what the row lists, tied by the card).
-/
import Derived.Test.YthknghbopfmlpaaDoorHExamples
import Derived.Test.YthknghbopfmlpaaDoorHRoots
import Derived.Test.YthknghbopfmlpaaDoorEnd
import Derived.Test.YthknghbopfmlpaaDoorTie
import Derived.Test.YthknghbopfmlpaaDoorCards
import Derived.LaidMore
import Derived.Lay
import Derived.PlainAid
import Derived.SevenTiedAt
import Derived.Stop.Joined
namespace Go.Proofs.YthknghbopfmlpaaDoor.shaLong
open Go.RowKit Go.Proofs.YthknghbopfmlpaaDoor.Sha

set_option maxRecDepth 100000 in
theorem conv_one (w : World) (b : Int) (h0 : 0 ≤ b) (h1 : b < 256) : (convert 27 9 (.slice (some ⟨w.heap.size, 0, none⟩) 1 1)).run Tryd.prog (w.alloc (.cells #[.int .u8 b] 5)) = .ok (.string ⟨#[b.toNat.toUInt8]⟩) (w.alloc (.cells #[.int .u8 b] 5)) := by
  have e : b = ((b.toNat.toUInt8.toNat : Nat) : Int) := by simp; omega
  have ho : Owns (w.alloc (.cells #[.int .u8 b] 5)) w.heap.size w.heap.size 1 [b.toNat.toUInt8] := by
    have := World.ownsRow_lit (base := w.heap.size) (e := 5) (size := 1) w #[.int .u8 b] 1 (Nat.le_refl _) (by decide) rfl
    unfold Owns
    rw [show vals [b.toNat.toUInt8] = [.int .u8 b] by simp only [vals, List.map_cons, List.map_nil]; rw [← e]]
    exact this
  exact conv_owns ho

set_option maxHeartbeats 4000000 in
set_option maxRecDepth 100000 in
theorem walk (t : ByteArray) (ht : t.size ≤ 140737488351232) (n : Int) (hn0 : 0 ≤ n) (hn1 : n ≤ 255) (b : Int) (hb0 : 0 ≤ b) (hb1 : b ≤ 255) (w : World) (hR : Roots w) :
    Calls Tryd.prog 4 #[.string t, .int .u8 n, .int .u8 b] w fun e w' => e = .returned (.bool true) ∧ Below w.heap.size w w' := by
  have HX := Lib.hid (examples_any w hR)
  have HR := Lib.hid hR
  clear hR
  have HC : Hid (∀ w : World, (convert 27 9 (.slice (some ⟨w.heap.size, 0, none⟩) 1 1)).run Tryd.prog (w.alloc (.cells #[.int .u8 b] 5)) = .ok (.string ⟨#[b.toNat.toUInt8]⟩) (w.alloc (.cells #[.int .u8 b] 5))) := Lib.hid fun w => conv_one w b hb0 (by omega)
  obtain ⟨m, hm⟩ : ∃ m : Nat, min (t.size : Int) 200 = (m : Int) := ⟨min t.size 200, by omega⟩
  have hm2 : m ≤ 200 := by omega
  have hmt : m ≤ t.size := by omega
  have hmtz : (m : Int) ≤ (t.size : Int) := by omega
  obtain ⟨q, hq⟩ : ∃ q : Nat, n % 140 = (q : Int) := ⟨(n % 140).toNat, by omega⟩
  have hq1 : q < 140 := by omega
  have hq256 : (q : Int) < 256 := by omega
  go_enter Tryd.func4, Tryd.ntmps4
  go_wp2_with fail
  with_reducible refine HX.out.mono ?_
  rintro e w1 ⟨rfl, b1⟩
  go_wp2
  clear hm hmtz
  go_loopw [8, 9] (fun v i wr => ∃ (k : Nat) (x : ByteArray), k ≤ q ∧ i = .int .i64 k ∧ v = .string x ∧ x.size ≤ 200 + k ∧ Below w.heap.size w wr) (fun _ i _ => q - (intOf i).toNat)
  case atStart => exact ⟨0, _, Nat.zero_le _, rfl, rfl, by rw [ByteArray.size_extract]; omega, b1⟩
  case round =>
    obtain ⟨k, x, hk, rfl, rfl, hx, hb⟩ := hrel
    by_cases hlt : k < q
    · have hltz : (k : Int) < (q : Int) := by omega
      have hcv := HC.out wr
      have hxz : (x.size : Int) + 1 ≤ 9223372036854775807 := by omega
      have hadd : ∀ w, Sem.run Tryd.prog (Op.stringOp .add x ⟨#[b.toNat.toUInt8]⟩) w = .ok (.string (x ++ ⟨#[b.toNat.toUInt8]⟩)) w := fun w => run_string_add_sum w _ _ (show x.size + 1 ≤ 9223372036854775807 by omega)
      have HS : Hid ((x ++ ⟨#[b.toNat.toUInt8]⟩ : ByteArray).size = x.size + 1) := Lib.hid (by rw [ByteArray.size_append]; rfl)
      go_wp2
      go_roundw
      case rel => exact ⟨k + 1, _, by omega, by go_num, rfl, by rw [HS.out]; omega, hb.alloc hb.size _⟩
      case measure => simp [intOf]; omega
    · obtain rfl : k = q := by omega
      have HSum : Hid (∀ w, Roots w → Calls Tryd.prog 11 #[.string x] w fun e w' => e = .returned (.string (str (sumL x.data.toList))) ∧ Below w.heap.size w w') := Lib.hid fun w hR => sum_any x (by omega) w hR
      have hl : (sumL x.data.toList).length = 32 := sumL_len _
      obtain ⟨S, hS⟩ : ∃ S, sumL x.data.toList = S := ⟨_, rfl⟩
      rw [hS] at HSum hl
      have HHex : Hid (∀ w, Calls Tryd.prog 13 #[.string (str S)] w fun e w' => e = .returned (.string (str (hexL S))) ∧ Below w.heap.size w w') := Lib.hid fun w => hexed _ _ (by rw [str_size]; omega) (by rw [str_toList, str_toList]) w
      have HPar : Hid (∀ w, Calls Tryd.prog 9 #[.string (str (hexL S))] w fun e w' => e = .returned (.tuple #[.string (str S), .bool true]) ∧ Below w.heap.size w w') := Lib.hid fun w => parse_yes _ (by rw [str_size, hexL_len]; omega) S (by rw [str_toList]) w
      have h32 : (str S).size = 32 := by rw [str_size]; exact hl
      have h64 : (str (hexL S)).size = 64 := by rw [str_size, hexL_len]; omega
      obtain ⟨A, hA⟩ : ∃ A, str S = A := ⟨_, rfl⟩
      obtain ⟨B, hB⟩ : ∃ B, str (hexL S) = B := ⟨_, rfl⟩
      rw [hA] at HSum HHex HPar h32
      rw [hB] at HHex HPar h64
      clear hl hS hA hB
      go_wp2_with fail
      with_reducible refine (HSum.out _ (HR.out.below hb)).mono ?_
      rintro e w2 ⟨rfl, b2⟩
      go_wp2_with fail
      with_reducible refine (HHex.out _).mono ?_
      rintro e w3 ⟨rfl, b3⟩
      go_wp2_with fail
      with_reducible refine (HPar.out _).mono ?_
      rintro e w4 ⟨rfl, b4⟩
      have hb4 := grows (grows (grows hb b2) b3) b4
      clear b2 b3 b4
      go_wp2_with fail
      with_reducible refine (HSum.out _ (HR.out.below hb4)).mono ?_
      rintro e w5 ⟨rfl, b5⟩
      go_wp2_with fail
      with_reducible refine (HHex.out _).mono ?_
      rintro e w6 ⟨rfl, b6⟩
      go_wp2
      go_ret
      exact ⟨rfl, grows (grows hb4 b5) b6⟩

open Go.ChangeShapes Go.WideShapes Go.ChangeAt
set_option maxRecDepth 100000 in
theorem lifted (os : Os) (started : os.Started) (H : Type) (enc : TypeId × Value → H) :
    ReturnsInHanded {} Tryd.checked os 4 .any (fun w args => (Rows.shaLongSpec.pre enc Tryd.prog Tryd.f4 Rows.shaLongRow.domain false w args ∧ laidMetH Tryd.prog Rows.shaLongRow.laid w) ∧ sizedMet enc Tryd.prog Tryd.f4 (OpenSpec.ofChange Rows.shaLongSpec) false w args)
      (Rows.shaLongSpec.post enc Tryd.prog Tryd.f4 false true false false) := by
  refine returnsInHanded_of_change_and (C := Tryd.checked) (X := fun w _ => laidMetH Tryd.prog Rows.shaLongRow.laid w) (fun _ _ _ hh h => h.of_heap hh) Ends.own started (by kernel_rfl) Tryd.func4
    (ChangeSpec.witness_shaped (enc := enc) (C := Tryd.checked) (os := os) (X := fun w _ => laidMetH Tryd.prog Rows.shaLongRow.laid w) false (World.laidAll Tryd.prog os Rows.shaLongRow.laid) #[.string ⟨#[]⟩, .int .u8 0, .int .u8 0] 8 (World.laidAll_os _ _ _)
      (World.shaped_of_ZipB (by kernel_rfl) (by kernel_rfl)) (by kernel_rfl) (by kernel_rfl) (by kernel_rfl)
      (by rw [MakeChecks.laidMetH_plain _ _ _ (by kernel_rfl)]; exact laidMet_laidAll _ (by kernel_rfl) (by kernel_rfl))) ?_
  intro W base args ds gs before hval0 hW _ hsz0 hL _
  have hval : ∀ (j : Nat) t v, Tryd.f4.params[j]? = some t → args[j]? = some v → Value.okWide Tryd.prog W .any base t v := hval0
  have hsz : (DataW.weightsEach Tryd.prog (Tryd.f4.params.toList ++ Rows.shaLongSpec.plain.varTypes Tryd.prog) (ds ++ gs)).all (· ≤ reachBytes) = true := hsz0
  have hW' := hW
  obtain ⟨p, q, hA0, hV, rfl, hfz, hnd⟩ := hW
  have hA : DataW.TrodAll enc Tryd.prog W 0 (fun _ => true) true Tryd.f4.params.toList args.toList ds p := hA0
  rw [Tryd.params4] at hA hval hsz
  obtain ⟨v0, vs0, d0, ds0, p0, q0, hargs, rfl, rfl, h0, r0⟩ := trodAll_cons hA
  obtain ⟨v1, vs1, d1, ds1, p1, q1, rfl, rfl, rfl, h1, r1⟩ := trodAll_cons r0
  obtain ⟨v2, vs2, d2, ds2, p2, q2, rfl, rfl, rfl, h2, r2⟩ := trodAll_cons r1
  obtain ⟨rfl, rfl, rfl⟩ := trodAll_nil r2
  obtain rfl : args = #[v0, v1, v2] := by cases args; simp_all
  obtain ⟨rfl, rfl⟩ := trodVars_none hV
  obtain ⟨a0, rfl, rfl, rfl, w0⟩ := Go.ChangeMaps.open_string Tryd.underlying9 (hval 0 9 v0 rfl rfl) h0
  obtain ⟨a1, rfl, rfl, rfl, w1⟩ := open_int Tryd.underlying5 (hval 1 5 v1 rfl rfl) h1
  obtain ⟨a2, rfl, rfl, rfl, w2⟩ := open_int Tryd.underlying5 (hval 2 5 v2 rfl rfl) h2
  have b0 : a0.size ≤ 140737488351232 := by have := sized_string hsz (j := 0) rfl rfl; rw [Array.length_toList] at this; exact this
  have b1 := bounds_u8 w1
  have b2 := bounds_u8 w2
  refine (walk a0 b0 a1 b1.1 b1.2 a2 b2.1 b2.2 W (Sha.roots_met (by kernel_rfl) hL)).mono fun e W' ⟨he, hb⟩ => ?_
  subst he
  exact ⟨_, rfl, Ends.law_end Ends.laidOut (by rw [Tryd.params4]; decide +kernel) rfl (by kernel_rfl) Tryd.underlying4 hW' rfl hb⟩

theorem row : Rows.ShaLongSaid :=
  OpenClaim.holds_of_wide 4 Tryd.f4 rfl rfl rfl rfl rfl rfl rfl ⟨rfl, rfl, rfl, rfl, rfl⟩ rfl rfl rfl rfl rfl (by kernel_rfl) Tryd.func4 (by kernel_rfl)
    (of_decide_eq_true (by kernel_rfl)) (by unfold Func.isWrapper; first | (rw [if_pos (by decide +kernel)]; kernel_rfl) | (rw [if_neg (by decide +kernel)]; exact ⟨rfl, rfl⟩))
    (fun os started H enc _ => lifted os started H enc)

/-- The statement: the tied card. -/
theorem proved : Rows.ShaLongCardSaid :=
  Claim7.holds_tied_plain_at .later [] [.data, .data] true Rows.shaLongCard.stood.harness false row (fun _ h => by cases h) (by kernel_rfl) (fun _ h => by cases h) shaLong_row_tie rfl ⟨rfl, rfl⟩ (by kernel_rfl) rfl
    (fun f fn hf hfn => by
      obtain rfl : f = 4 := Option.some.inj ((show Tryd.prog.funcNamed "demesne/demesnelaw06.ShaLong" = some 4 by kernel_rfl).symm.trans hf) |>.symm
      obtain rfl : fn = Tryd.f4 := (Option.some.inj (Tryd.func4.symm.trans hfn)).symm
      exact ⟨by kernel_rfl, fun j t ht => by
        rw [Tryd.params4] at ht
        have hm : t ∈ [9, 5, 5] := by simpa using Array.mem_of_getElem? ht
        have hall : ([9, 5, 5].all fun u => !Tryd.prog.wantsStandIn u) = true := by kernel_rfl
        exact (show Tryd.prog.wantsStandIn t = false by simpa using List.all_eq_true.1 hall t hm)⟩)
    (by kernel_rfl)
end Go.Proofs.YthknghbopfmlpaaDoor.shaLong
