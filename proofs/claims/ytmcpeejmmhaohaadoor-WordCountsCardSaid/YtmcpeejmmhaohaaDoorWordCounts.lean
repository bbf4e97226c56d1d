/- Proved: demesnelaw02.WordCounts answers true for every two slices of bytes and every byte, and leaves them as they were. Its row lists two tables of Go's library (utf8.first, utf8.acceptRanges) as they are laid; the call reads neither. -/
import Derived.Test.YtmcpeejmmhaohaaDoorWMaker
import Derived.Test.YtmcpeejmmhaohaaDoorEnd
import Derived.Test.YtmcpeejmmhaohaaDoorTie
import Derived.Test.YtmcpeejmmhaohaaDoorCards
import Derived.LaidMore
import Derived.Lay
import Derived.SevenTiedAt
import Derived.Stop.Joined
namespace Go.Proofs.YtmcpeejmmhaohaaDoor.wordCounts
open Go.RowKit Go.Proofs.YtmcpeejmmhaohaaDoor.Word Go.Proofs.YtmcpeejmmhaohaaDoor.Args

theorem cat (a b : List UInt8) : (str a ++ str b).data.toList = a ++ b := by rw [str_append, str_toList]
theorem count_two (l m : List UInt8) : count (made l ++ made m) = count (made l) + count (made m) := by
  unfold count
  rw [made_runes, made_alone, made_alone, List.length_append]
theorem count_three (l m : List UInt8) (k : Nat) : count (made l ++ List.replicate k 255 ++ made m) = count (made l) + k + count (made m) := by
  unfold count
  rw [List.append_assoc, made_runes, runes_bads, made_alone, made_alone, List.length_append, List.length_append, List.length_replicate]
  omega
theorem count_le (l : List UInt8) : count (made l) ≤ 16 := by rw [made_count]; omega

set_option maxRecDepth 100000 in
set_option maxHeartbeats 4000000 in
theorem walk_any (v v' : Value) (bs bs' : List UInt8) (x r : Nat) (hx : x ≤ 255) (hr : x % 8 = r) (c c' : Nat) (hc : c ≤ 16) (hc' : c' ≤ 16) (q q' z : ByteArray) (hq : q.size ≤ 32) (hq' : q'.size ≤ 32) (hz : z.size ≤ 8)
    (HM : Hid (∀ w, Bytes w v bs → Calls Tryd.prog 21 #[v] w fun e w' => e = .returned (.string q) ∧ Below w.heap.size w w'))
    (HM' : Hid (∀ w, Bytes w v' bs' → Calls Tryd.prog 21 #[v'] w fun e w' => e = .returned (.string q') ∧ Below w.heap.size w w'))
    (HZ : Hid (z = str (List.replicate r 255))) (hcz : Hid (count q.data.toList = c)) (hcz' : Hid (count q'.data.toList = c')) (h2 : Hid (count (q ++ q').data.toList = c + c')) (h3 : Hid (count (q ++ z ++ q').data.toList = c + r + c'))
    (h4 : Hid (right (q ++ z).data.toList = decide (r = 0))) (w : World) (hv : Hid (Bytes w v bs)) (hv' : Hid (Bytes w v' bs')) :
    Calls Tryd.prog 5 #[v, v', .int .u8 x] w fun e w' => e = .returned (.bool true) ∧ Below w.heap.size w w' := by
  have hr8 : (x : Int) % 8 = (r : Int) := by omega
  have hr7 : r ≤ 7 := by omega
  clear hr
  go_enter Tryd.func5, Tryd.ntmps5
  go_wp2_with fail
  refine (examples_any _).mono ?_
  rintro e w1 ⟨rfl, hb1⟩
  go_wp2_with fail
  refine (HM.out _ (hv.out.below hb1)).mono ?_
  rintro e w2 ⟨rfl, hb2⟩
  have hb := grows hb1 hb2
  clear hb1 hb2
  go_wp2_with fail
  refine (HM'.out _ (hv'.out.below hb)).mono ?_
  rintro e w3 ⟨rfl, hb3⟩
  have hb' := grows hb hb3
  clear hb hb3
  go_wp2_with fail
  go_loop [10, 11] (fun b i => ∃ k : Nat, k ≤ r ∧ b = .string (str (List.replicate k 255)) ∧ i = .int .i64 k) (fun _ i => r - (intOf i).toNat)
  case atStart => exact ⟨0, Nat.zero_le _, rfl, rfl⟩
  case round =>
    obtain ⟨k, hk, rfl, rfl⟩ := hrel
    by_cases hlt : k < r
    · obtain ⟨y, hy⟩ : ∃ y, y = str (List.replicate k 255) := ⟨_, rfl⟩
      have HY := Lib.hid hy
      have hys : y.size ≤ 8 := by rw [hy, str_size]; simp; omega
      rw [← hy]
      clear hy
      go_wp2
      go_round
      case rel =>
        refine ⟨k + 1, by omega, ?_, by go_num⟩
        rw [HY.out, show (⟨#[255]⟩ : ByteArray) = str [255] from rfl, str_append, List.replicate_succ']
      case measure => simp [intOf]; omega
    · have HK := Lib.hid (show str (List.replicate k 255) = z by rw [HZ.out, show k = r by omega])
      rw [HK.out]
      have e1 : ((0 : Int) == 0) = true := rfl
      go_wp2_with fail
      refine (count_is _ (by simp; omega) ((c : Int) + c') (by rw [h2.out]; omega) _).mono ?_
      rintro e w4 ⟨rfl, hb4⟩
      have hb := grows hb' hb4
      clear hb' hb4
      go_wp2_with fail
      refine (count_is q (by omega) c (by rw [hcz.out]) _).mono ?_
      rintro e w5 ⟨rfl, hb5⟩
      have hb' := grows hb hb5
      clear hb hb5
      go_wp2_with fail
      refine (count_is q' (by omega) c' (by rw [hcz'.out]) _).mono ?_
      rintro e w6 ⟨rfl, hb6⟩
      have hb := grows hb' hb6
      clear hb' hb6
      go_wp2_with fail
      refine (count_is _ (by simp; omega) ((c : Int) + r + c') (by rw [h3.out]; omega) _).mono ?_
      rintro e w7 ⟨rfl, hb7⟩
      have hb' := grows hb hb7
      clear hb hb7
      go_wp2_with fail
      refine (count_is q (by omega) c (by rw [hcz.out]) _).mono ?_
      rintro e w8 ⟨rfl, hb8⟩
      have hb := grows hb' hb8
      clear hb' hb8
      go_wp2_with fail
      refine (count_is q' (by omega) c' (by rw [hcz'.out]) _).mono ?_
      rintro e w9 ⟨rfl, hb9⟩
      have hb' := grows hb hb9
      clear hb hb9
      go_wp2_with fail
      refine (right_is _ (decide (r = 0)) h4.out _).mono ?_
      rintro e w10 ⟨rfl, hb10⟩
      have hb := grows hb' hb10
      clear hb' hb10
      have hd : ((r : Int) == 0) = decide (r = 0) := by rw [Bool.eq_iff_iff, beq_iff_eq, decide_eq_true_iff]; omega
      obtain ⟨d, hdd⟩ : ∃ d, d = decide (r = 0) := ⟨_, rfl⟩
      rw [← hdd] at hd ⊢
      clear hdd
      go_wp2_with fail
      refine (count_is ⟨#[]⟩ (by decide) 0 (by decide) _).mono ?_
      rintro e w11 ⟨rfl, hb11⟩
      have hb' := grows hb hb11
      clear hb hb11
      go_wp2
      go_ret
      exact ⟨rfl, hb'⟩

theorem walk (v : Value) (bs : List UInt8) (v' : Value) (bs' : List UInt8) (n : Int) (h0 : 0 ≤ n) (h1 : n ≤ 255) (w : World) (hv : Bytes w v bs) (hv' : Bytes w v' bs') :
    Calls Tryd.prog 5 #[v, v', .int .u8 n] w fun e w' => e = .returned (.bool true) ∧ Below w.heap.size w w' := by
  obtain ⟨x, rfl⟩ := Int.eq_ofNat_of_zero_le h0
  refine walk_any v v' bs bs' x (x % 8) (by omega) rfl (count (made bs)) (count (made bs')) (count_le _) (count_le _) (str (made bs)) (str (made bs')) (str (List.replicate (x % 8) 255)) (by rw [str_size]; exact made_len _) (by rw [str_size]; exact made_len _) (by rw [str_size]; simp; omega)
    (Lib.hid fun w hw => made_any v bs w hw) (Lib.hid fun w hw => made_any v' bs' w hw) (Lib.hid rfl) (Lib.hid (by rw [str_toList])) (Lib.hid (by rw [str_toList])) (Lib.hid (by rw [cat, count_two])) (Lib.hid (by rw [str_append, cat, count_three])) (Lib.hid (by rw [cat, made_bads])) w (Lib.hid hv) (Lib.hid hv')

open Go.ChangeShapes Go.WideShapes Go.ChangeAt
set_option maxRecDepth 100000 in
theorem lifted (os : Os) (started : os.Started) (H : Type) (enc : TypeId × Value → H) :
    ReturnsInHanded {} Tryd.checked os 5 .any (fun w args => (Rows.wordCountsSpec.pre enc Tryd.prog Tryd.f5 Rows.wordCountsRow.domain false w args ∧ laidMetH Tryd.prog Rows.wordCountsRow.laid w) ∧ sizedMet enc Tryd.prog Tryd.f5 (OpenSpec.ofChange Rows.wordCountsSpec) false w args)
      (Rows.wordCountsSpec.post enc Tryd.prog Tryd.f5 false true false false) := by
  refine returnsInHanded_of_change_and (C := Tryd.checked) (X := fun w _ => laidMetH Tryd.prog Rows.wordCountsRow.laid w) (fun _ _ _ hh h => h.of_heap hh) Ends.own started (by kernel_rfl) Tryd.func5
    (ChangeSpec.witness_shaped (enc := enc) (C := Tryd.checked) (os := os) (X := fun w _ => laidMetH Tryd.prog Rows.wordCountsRow.laid w) false (World.laidAll Tryd.prog os Rows.wordCountsRow.laid) #[.slice none 0 0, .slice none 0 0, .int .u8 0] 8 (World.laidAll_os _ _ _)
      (World.shaped_of_ZipB (by kernel_rfl) (by kernel_rfl)) (by kernel_rfl) (by kernel_rfl) (by kernel_rfl)
      (by rw [MakeChecks.laidMetH_plain _ _ _ (by kernel_rfl)]; exact laidMet_laidAll _ (by kernel_rfl) (by kernel_rfl))) ?_
  intro W base args ds gs before hval0 hW _ _ _ _
  have hval : ∀ (j : Nat) t v, Tryd.f5.params[j]? = some t → args[j]? = some v → Value.okWide Tryd.prog W .any base t v := hval0
  have hW' := hW
  obtain ⟨p, q, hA0, hV, rfl, hfz, hnd⟩ := hW
  have hA : DataW.TrodAll enc Tryd.prog W 0 (fun _ => true) true Tryd.f5.params.toList args.toList ds p := hA0
  rw [Tryd.params5] at hA hval
  obtain ⟨v0, vs0, d0, ds0, p0, q0, hargs, rfl, rfl, h0, r0⟩ := trodAll_cons hA
  obtain ⟨v1, vs1, d1, ds1, p1, q1, rfl, rfl, rfl, h1, r1⟩ := trodAll_cons r0
  obtain ⟨v2, vs2, d2, ds2, p2, q2, rfl, rfl, rfl, h2, r2⟩ := trodAll_cons r1
  obtain ⟨rfl, rfl, rfl⟩ := trodAll_nil r2
  obtain rfl : args = #[v0, v1, v2] := by cases args; simp_all
  obtain ⟨rfl, rfl⟩ := trodVars_none hV
  obtain ⟨a0, w0⟩ := Args.open_bytes Tryd.underlying29 Tryd.underlying5 (by kernel_rfl) (hval 0 29 v0 rfl rfl) h0
  obtain ⟨a1, w1⟩ := Args.open_bytes Tryd.underlying29 Tryd.underlying5 (by kernel_rfl) (hval 1 29 v1 rfl rfl) h1
  obtain ⟨a2, rfl, rfl, rfl, w2⟩ := open_int Tryd.underlying5 (hval 2 5 v2 rfl rfl) h2
  have b2 := bounds_u8 w2
  refine (walk v0 a0 v1 a1 a2 b2.1 b2.2 W w0 w1).mono fun e W' ⟨he, hb⟩ => ?_
  subst he
  exact ⟨_, rfl, Ends.law_end Ends.laidOut (by rw [Tryd.params5]; decide +kernel) rfl (by kernel_rfl) Tryd.underlying4 hW' rfl hb⟩

theorem row : Rows.WordCountsSaid :=
  OpenClaim.holds_of_wide 5 Tryd.f5 rfl rfl rfl rfl rfl rfl rfl ⟨rfl, rfl, rfl, rfl, rfl⟩ rfl rfl rfl rfl rfl (by kernel_rfl) Tryd.func5 (by kernel_rfl)
    (of_decide_eq_true (by kernel_rfl)) (by unfold Func.isWrapper; first | (rw [if_pos (by decide +kernel)]; kernel_rfl) | (rw [if_neg (by decide +kernel)]; exact ⟨rfl, rfl⟩))
    (fun os started H enc _ => lifted os started H enc)

/-- The statement: the tied card. -/
theorem proved : Rows.WordCountsCardSaid :=
  Claim7.holds_tied_plain_at .later [] [.data, .pinned] true Rows.wordCountsCard.stood.harness false row (fun _ h => by cases h) (by kernel_rfl) (fun _ h => by cases h) wordCounts_row_tie rfl ⟨rfl, rfl⟩ (by kernel_rfl) rfl
    (fun f fn hf hfn => by
      obtain rfl : f = 5 := Option.some.inj ((show Tryd.prog.funcNamed "demesne/demesnelaw02.WordCounts" = some 5 by kernel_rfl).symm.trans hf) |>.symm
      obtain rfl : fn = Tryd.f5 := (Option.some.inj (Tryd.func5.symm.trans hfn)).symm
      exact ⟨by kernel_rfl, fun j t ht => by
        rw [Tryd.params5] at ht
        have hm : t ∈ [29, 29, 5] := by simpa using Array.mem_of_getElem? ht
        have hall : ([29, 29, 5].all fun u => !Tryd.prog.wantsStandIn u) = true := by kernel_rfl
        exact (show Tryd.prog.wantsStandIn t = false by simpa using List.all_eq_true.1 hall t hm)⟩)
    (by kernel_rfl)
end Go.Proofs.YtmcpeejmmhaohaaDoor.wordCounts
