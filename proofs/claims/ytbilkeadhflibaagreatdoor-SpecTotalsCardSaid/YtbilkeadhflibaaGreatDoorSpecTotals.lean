/-
  demesnelaw11.SpecTotals, for every input: all copies of a job ask so many times what one does (the law answers true, and its argument reads as before).
  Conditions: none beyond the row's own (the reach; what the row lists, tied by the card).
-/
import Derived.Test.YtbilkeadhflibaaGreatDoorJL4
import Derived.Test.YtbilkeadhflibaaGreatDoorTie
import Derived.Test.YtbilkeadhflibaaGreatDoorCards
import Derived.LaidMore
import Derived.Lay
import Derived.PlainAid
import Derived.SevenTiedAt
import Derived.Stop.Joined
import Derived.Deep.Cut
namespace Go.Proofs.YtbilkeadhflibaaGreatDoor.specTotals
open Go.RowKit Go.Proofs.YtbilkeadhflibaaGreatDoor.Wire Go.Proofs.YtbilkeadhflibaaGreatDoor.Vec Go.Proofs.YtbilkeadhflibaaGreatDoor.Sel Go.Proofs.YtbilkeadhflibaaGreatDoor.Texts Go.Proofs.YtbilkeadhflibaaGreatDoor.Args Go.Proofs.YtbilkeadhflibaaGreatDoor.Job

/-- So many times the amounts. -/
def times (bs : List UInt8) (i k : Nat) : Int := ((demAt bs k * i : Nat) : Int)
theorem times_range (bs : List UInt8) {i : Nat} (hi : i ≤ 8) : InRange (times bs i) := fun k _ => by
  have h1 := demAt_lt bs k
  have h2 := Nat.mul_le_mul h1 hi
  unfold times
  omega
theorem times_more (bs : List UInt8) (i : Nat) : ∀ k, k < 4 → times bs (i + 1) k = times bs i k + times bs 1 k := fun k _ => by
  unfold times
  rw [Nat.mul_succ, Nat.mul_one]
  omega

set_option maxHeartbeats 4000000 in
set_option maxRecDepth 100000 in
theorem walk (lv : Value) (lb : List UInt8) (w : World) (hR : Roots w) (hl : Bytes w lv lb) :
    Calls Tryz.prog 6 #[lv] w fun e w' => e = .returned (.bool true) ∧ Below w.heap.size w w' := by
  have HX := Lib.hid (examples_any w hR)
  have HM : Hid (∀ W, Below w.heap.size w W → Calls Tryz.prog 26 #[lv] W fun e w' => (∃ u, e = .returned (valJ (madeJ lb) u) ∧ TRow w' u (terms (madeJ lb))) ∧ Below W.heap.size W w') := Lib.hid fun W h => made_any lv lb W (hl.below h)
  have hf := made_fair lb
  have hc := (checkJ_ok.1 (made_check lb)).2.2.2
  obtain ⟨N, hN⟩ : ∃ N, N = 1 + bAt lb 1 % 8 := ⟨_, rfl⟩
  have hN8 : N ≤ 8 := by omega
  have hco : cou (madeJ lb) = (N : Int) := by rw [hN]; rfl
  have hmany : manyJ (madeJ lb) = N := by rw [manyJ_small (by omega), hco]; omega
  have htot : totalJ (madeJ lb) = some (demAt lb 0 * N, demAt lb 1 * N, demAt lb 2 * N, demAt lb 3 * N) := by
    unfold totalJ
    rw [hmany]
    exact timesV_some (x := dem (madeJ lb)) fun k hk => by
      rw [am_made lb k hk]
      have h1 := demAt_lt lb k
      have h2 := Nat.mul_le_mul h1 hN8
      omega
  have HTo : Hid (∀ s W, Calls Tryz.prog 11 #[valJ (madeJ lb) s] W fun e w' => e = .returned (.tuple #[vec (times lb N 0) (times lb N 1) (times lb N 2) (times lb N 3), .bool true]) ∧ Below W.heap.size W w') := Lib.hid fun s W => by
    have h := total_any (madeJ lb) hf.dem s W
    rw [htot] at h
    exact h
  have HVal : ∀ u, valJ (madeJ lb) u = val9 (path (madeJ lb)) (times lb 1 0) (times lb 1 1) (times lb 1 2) (times lb 1 3) N (pri (madeJ lb)) (tik (madeJ lb)) u := fun u => by
    unfold times
    rw [Nat.mul_one, Nat.mul_one, Nat.mul_one, Nat.mul_one, valJ_eq, hco]
    rfl
  simp only [HVal] at HM HTo
  have HAdd : Hid (∀ i, i < N → ∀ W, Calls Tryz.prog 29 #[vec (times lb i 0) (times lb i 1) (times lb i 2) (times lb i 3), vec (times lb 1 0) (times lb 1 1) (times lb 1 2) (times lb 1 3)] W fun e w' => e = .returned (.tuple #[vec (times lb (i + 1) 0) (times lb (i + 1) 1) (times lb (i + 1) 2) (times lb (i + 1) 3), .bool true]) ∧ Below W.heap.size W w') := Lib.hid fun i hi W =>
    add_yes (times lb i) (times lb 1) (times lb (i + 1)) (times_range lb (by omega)) (times_range lb (by omega)) (times_range lb (by omega)) (times_more lb i) W
  have h00 : ∀ k, times lb 0 k = 0 := fun k => by unfold times; rw [Nat.mul_zero]; rfl
  obtain ⟨p, hp⟩ : ∃ p, p = path (madeJ lb) := ⟨_, rfl⟩
  obtain ⟨m, hm⟩ : ∃ p, p = pri (madeJ lb) := ⟨_, rfl⟩
  obtain ⟨k, hk⟩ : ∃ p, p = tik (madeJ lb) := ⟨_, rfl⟩
  obtain ⟨ts, hts⟩ : ∃ ts, ts = terms (madeJ lb) := ⟨_, rfl⟩
  obtain ⟨g, hg⟩ : ∃ g, g = times lb := ⟨_, rfl⟩
  rw [← hp, ← hm, ← hk] at HM HTo
  rw [← hts] at HM
  rw [← hg] at HM HTo HAdd h00
  have H00 := Lib.hid h00
  clear hf hc hN hco hmany htot HVal h00 hp hm hk hts hg hR hl
  unfold val9 at HM HTo
  unfold vec at HTo HAdd
  go_enter Tryz.func6, Tryz.ntmps6
  go_wp2_with fail
  with_reducible refine HX.out.mono ?_
  rintro e w1 ⟨rfl, b1⟩
  go_wp2_with fail
  with_reducible refine (HM.out _ b1).mono ?_
  rintro e w2 ⟨⟨u, rfl, hu⟩, k2⟩
  have b2 := grows b1 k2
  obtain ⟨ua, uc, rfl, _, _⟩ := hu.slice
  clear hu k2 b1
  go_upto_region 5 with fail
  obtain ⟨T, hT⟩ : ∃ T, T = w2.heap.size := ⟨_, rfl⟩
  have hX := heap_alloc_new w2 (box9 p (g 1 0) (g 1 1) (g 1 2) (g 1 3) N m k (.slice ua ts.length uc))
  have b3 := grows b2 (grew w2 (box9 p (g 1 0) (g 1 1) (g 1 2) (g 1 3) N m k (.slice ua ts.length uc)))
  rw [← hT] at hX ⊢
  unfold box9 at hX b3
  generalize w2.alloc (.cells #[.string p, .int .u64 (g 1 0), .int .u64 (g 1 1), .int .u64 (g 1 2), .int .u64 (g 1 3), .int .i64 N, .int .i64 m, .int .i64 k, .slice ua ts.length uc] 27) = w3 at hX b3 ⊢
  have HX3 := Lib.hid hX
  clear hX hT b2
  obtain ⟨⟨c0, c1, c2, c3, c4, c5, c6, c7, c8⟩, _⟩ := cells9 HX3.out
  go_wp2_with fail
  with_reducible refine (HTo.out _ _).mono ?_
  rintro e w4 ⟨rfl, k4⟩
  clear c0 c1 c2 c3 c4 c5 c6 c7 c8
  have hb4 := grows b3 k4
  have HX4 := Lib.hid ((k4.block _ (Array.getElem?_eq_some_iff.1 HX3.out).1).trans HX3.out)
  clear b3 k4 HX3
  go_upto_region 8 with fail
  obtain ⟨V, hV⟩ : ∃ V, V = w4.heap.size := ⟨_, rfl⟩
  have hlT := (Array.getElem?_eq_some_iff.1 HX4.out).1
  have hB4 := grew w4 (box (g N 0) (g N 1) (g N 2) (g N 3))
  have hB5 := grows hB4 (grew (w4.alloc (box (g N 0) (g N 1) (g N 2) (g N 3))) (box 0 0 0 0))
  have hV0 : ((w4.alloc (box (g N 0) (g N 1) (g N 2) (g N 3))).alloc (box 0 0 0 0)).heap[V]? = some (box (g N 0) (g N 1) (g N 2) (g N 3)) := by
    rw [hV]; exact ((grew _ (box 0 0 0 0)).block _ (by simp)).trans (heap_alloc_new _ _)
  have hV1 : ((w4.alloc (box (g N 0) (g N 1) (g N 2) (g N 3))).alloc (box 0 0 0 0)).heap[V + 1]? = some (box 0 0 0 0) := by
    have h := heap_alloc_new (w4.alloc (box (g N 0) (g N 1) (g N 2) (g N 3))) (box 0 0 0 0)
    rwa [World.size_alloc, ← hV] at h
  have hT5 := (hB5.block _ hlT).trans HX4.out
  have hb5 := grows hb4 hB5
  have hTV : T < V := by rw [hV]; exact hlT
  have hwV : w.heap.size ≤ V := by rw [hV]; exact hb4.size
  rw [← hV]
  unfold box at hV0 hV1 hT5 hb5
  generalize (w4.alloc (.cells #[.int .u64 (g N 0), .int .u64 (g N 1), .int .u64 (g N 2), .int .u64 (g N 3)] 24)).alloc (.cells #[.int .u64 0, .int .u64 0, .int .u64 0, .int .u64 0] 24) = w5 at hV0 hV1 hT5 hb5 ⊢
  have HV0 := Lib.hid hV0
  have HV1 : Hid (w5.heap[V + 1]? = some (box (g 0 0) (g 0 1) (g 0 2) (g 0 3))) := Lib.hid (by rw [H00.out, H00.out, H00.out, H00.out]; exact hV1)
  have HT5 := Lib.hid hT5
  have HB5 := Lib.hid hb5
  have HTV := Lib.hid (And.intro hTV hwV)
  clear hV0 hV1 hT5 hb5 hB4 hB5 hlT HX4 hb4 hV hTV hwV H00
  go_wp2_with fail
  go_loopw [8, 9] (fun b i wr => ∃ j : Nat, j ≤ N ∧ i = .int .i64 j ∧ b = .bool true ∧ wr.heap[V + 1]? = some (box (g j 0) (g j 1) (g j 2) (g j 3)) ∧ Below (V + 1) w5 wr) (fun _ i _ => N - (intOf i).toNat)
  case atStart => exact ⟨0, Nat.zero_le _, rfl, rfl, HV1.out, Below.refl _ _⟩
  case round =>
    obtain ⟨j, hj, rfl, rfl, hv, hbr⟩ := hrel
    have h5 := (Array.getElem?_eq_some_iff.1 HV1.out).1
    have hTr : wr.heap[T]? = some (box9 p (g 1 0) (g 1 1) (g 1 2) (g 1 3) N m k (.slice ua ts.length uc)) := (hbr.block _ (by have := HTV.out.1; omega)).trans HT5.out
    have hVr : wr.heap[V]? = some (box (g N 0) (g N 1) (g N 2) (g N 3)) := (hbr.block _ (by omega)).trans HV0.out
    obtain ⟨⟨c0, c1, c2, c3, c4, c5, c6, c7, c8⟩, _⟩ := cells9 hTr
    have Hv := Lib.hid hv
    have HBr := Lib.hid hbr
    have HTr := Lib.hid hTr
    have HVr := Lib.hid hVr
    clear hv hbr hTr hVr h5
    by_cases hlt : j < N
    · have hltz : (j : Int) < (N : Int) := by omega
      have HA := Lib.hid (HAdd.out j hlt)
      obtain ⟨x0, x1, x2, x3, f0, f1, f2, f3⟩ := cells4 Hv.out
      go_wp2_with fail
      with_reducible refine (HA.out _).mono ?_
      rintro e w6 ⟨rfl, k6⟩
      have hv6 := (k6.block _ (Array.getElem?_eq_some_iff.1 Hv.out).1).trans Hv.out
      have hb6 : Below (V + 1) w5 w6 := HBr.out.trans (k6.mono (Nat.le_trans (Nat.le_of_lt (Array.getElem?_eq_some_iff.1 HV1.out).1) HBr.out.size))
      have Hb6 : Hid (Below (V + 1) w5 (set4 (V + 1) (g (j + 1) 0) (g (j + 1) 1) (g (j + 1) 2) (g (j + 1) 3) w6)) := Lib.hid (set4_below hb6 (Nat.le_refl _))
      have Hs6 := Lib.hid (set4_box hv6 (g (j + 1) 0) (g (j + 1) 1) (g (j + 1) 2) (g (j + 1) 3))
      clear x0 x1 x2 x3 f0 f1 f2 f3 c0 c1 c2 c3 c4 c5 c6 c7 c8
      obtain ⟨x0, x1, x2, x3, f0, f1, f2, f3⟩ := cells4 hv6
      clear hv6 hb6 k6
      go_wp2
      go_roundw
      case rel => exact ⟨j + 1, by omega, by go_num, rfl, Hs6.out, Hb6.out⟩
      case measure => simp [intOf]; omega
    · have hjN : j = N := by omega
      have hltz : ¬ (j : Int) < (N : Int) := by omega
      have Hv : Hid (wr.heap[V + 1]? = some (box (g N 0) (g N 1) (g N 2) (g N 3))) := Lib.hid (by rw [← hjN]; exact Hv.out)
      obtain ⟨x0, x1, x2, x3, f0, f1, f2, f3⟩ := cells4 Hv.out
      obtain ⟨y0, y1, y2, y3, _⟩ := cells4 HVr.out
      have hev := eql_vec (g N 0) (g N 1) (g N 2) (g N 3) (g N 0) (g N 1) (g N 2) (g N 3)
      have hsv : Vec.same (g N 0) (g N 1) (g N 2) (g N 3) (g N 0) (g N 1) (g N 2) (g N 3) = true := same_iff.2 ⟨rfl, rfl, rfl, rfl⟩
      rw [hsv] at hev
      have hwr := HB5.out.trans (HBr.out.mono (by have := HTV.out.2; omega))
      clear hjN hsv
      go_wp2
      go_ret
      exact ⟨rfl, hwr⟩
open Go.ChangeShapes Go.WideShapes Go.ChangeAt
set_option maxRecDepth 100000 in
theorem lifted (os : Os) (started : os.Started) (H : Type) (enc : TypeId × Value → H) :
    ReturnsInHanded {} Tryz.checked os 6 .any (fun w args => (Rows.specTotalsSpec.pre enc Tryz.prog Tryz.f6 Rows.specTotalsRow.domain false w args ∧ laidMetH Tryz.prog Rows.specTotalsRow.laid w) ∧ sizedMet enc Tryz.prog Tryz.f6 (OpenSpec.ofChange Rows.specTotalsSpec) false w args)
      (Rows.specTotalsSpec.post enc Tryz.prog Tryz.f6 false true false false) := by
  refine returnsInHanded_of_change_and (C := Tryz.checked) (X := fun w _ => laidMetH Tryz.prog Rows.specTotalsRow.laid w) (fun _ _ _ hh h => h.of_heap hh) Ends.own started (by kernel_rfl) Tryz.func6
    (ChangeSpec.witness_shaped (enc := enc) (C := Tryz.checked) (os := os) (X := fun w _ => laidMetH Tryz.prog Rows.specTotalsRow.laid w) false (World.laidAll Tryz.prog os Rows.specTotalsRow.laid) #[.slice none 0 0] 8 (World.laidAll_os _ _ _)
      (World.shaped_of_ZipB (by kernel_rfl) (by kernel_rfl)) (by kernel_rfl) (by kernel_rfl) (by kernel_rfl)
      (by rw [MakeChecks.laidMetH_plain _ _ _ (by kernel_rfl)]; exact laidMet_laidAll _ (by kernel_rfl) (by kernel_rfl))) ?_
  intro W base args ds gs before hval0 hW _ _ hL _
  have hval : ∀ (j : Nat) t v, Tryz.f6.params[j]? = some t → args[j]? = some v → Value.okWide Tryz.prog W .any base t v := hval0
  have hW' := hW
  obtain ⟨p, q, hA0, hV, rfl, hfz, hnd⟩ := hW
  have hA : DataW.TrodAll enc Tryz.prog W 0 (fun _ => true) true Tryz.f6.params.toList args.toList ds p := hA0
  rw [Tryz.params6] at hA hval
  obtain ⟨v0, vs0, d0, ds0, p0, q0, hargs, rfl, rfl, h0, r0⟩ := trodAll_cons hA
  obtain ⟨rfl, rfl, rfl⟩ := trodAll_nil r0
  obtain rfl : args = #[v0] := by cases args; simp_all
  obtain ⟨rfl, rfl⟩ := trodVars_none hV
  obtain ⟨a0, w0⟩ := Args.open_bytes Tryz.underlying56 Tryz.underlying5 (by kernel_rfl) (hval 0 56 v0 rfl rfl) h0
  refine (walk v0 a0 W (Job.roots_met hL) w0).mono fun e W' ⟨he, hb⟩ => ?_
  subst he
  exact ⟨_, rfl, Ends.law_end Ends.laidOut (by rw [Tryz.params6]; decide +kernel) rfl (by kernel_rfl) Tryz.underlying4 hW' rfl hb⟩

theorem row : Rows.SpecTotalsSaid :=
  OpenClaim.holds_of_wide 6 Tryz.f6 rfl rfl rfl rfl rfl rfl rfl ⟨rfl, rfl, rfl, rfl, rfl⟩ rfl rfl rfl rfl rfl (by kernel_rfl) Tryz.func6 (by kernel_rfl)
    (of_decide_eq_true (by kernel_rfl)) (by unfold Func.isWrapper; first | (rw [if_pos (by decide +kernel)]; kernel_rfl) | (rw [if_neg (by decide +kernel)]; exact ⟨rfl, rfl⟩))
    (fun os started H enc _ => lifted os started H enc)

/-- The statement: the tied card. -/
theorem proved : Rows.SpecTotalsCardSaid :=
  Claim7.holds_tied_plain_at .later [] [.data, .data, .data, .data, .sentinel, .sentinel, .sentinel, .pinned] true Rows.specTotalsCard.stood.harness true row (fun _ h => by cases h) (by kernel_rfl) (fun _ h => by cases h) specTotals_row_tie rfl ⟨rfl, rfl⟩ (by kernel_rfl) rfl
    (fun f fn hf hfn => by
      obtain rfl : f = 6 := Option.some.inj ((show Tryz.prog.funcNamed "demesne/demesnelaw11.SpecTotals" = some 6 by kernel_rfl).symm.trans hf) |>.symm
      obtain rfl : fn = Tryz.f6 := (Option.some.inj (Tryz.func6.symm.trans hfn)).symm
      exact ⟨by kernel_rfl, fun j t ht => by
        rw [Tryz.params6] at ht
        have hm : t ∈ [56] := by simpa using Array.mem_of_getElem? ht
        have hall : ([56].all fun u => !Tryz.prog.wantsStandIn u) = true := by kernel_rfl
        exact (show Tryz.prog.wantsStandIn t = false by simpa using List.all_eq_true.1 hall t hm)⟩)
    (by kernel_rfl)
end Go.Proofs.YtbilkeadhflibaaGreatDoor.specTotals
