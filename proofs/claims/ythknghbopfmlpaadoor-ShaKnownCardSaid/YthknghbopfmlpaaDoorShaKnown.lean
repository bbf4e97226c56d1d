/-
  demesnelaw06.ShaKnown, for every input: the sums of fifty-five, and of sixty-four, a are as they have been told elsewhere (the law answers true, and its argument reads as before).
  Conditions: none beyond the row's own (the reach; what the row lists, tied by the card).
-/
import Derived.Test.YthknghbopfmlpaaDoorHExamples
import Derived.Test.YthknghbopfmlpaaDoorHRoots
import Derived.Test.YthknghbopfmlpaaDoorQuiet
import Derived.Test.YthknghbopfmlpaaDoorEnd
import Derived.Test.YthknghbopfmlpaaDoorTie
import Derived.Test.YthknghbopfmlpaaDoorCards
import Derived.LaidMore
import Derived.Lay
import Derived.PlainAid
import Derived.SevenTiedAt
import Derived.Stop.Joined
namespace Go.Proofs.YthknghbopfmlpaaDoor.shaKnown
open Go.RowKit Go.Proofs.YthknghbopfmlpaaDoor.Sha

theorem cut_a (m : Nat) (hm : m ≤ 64) : ((str (List.replicate 64 97)).extract 0 m).data.toList = List.replicate m 97 := by
  rw [extract_take, str_toList, str_toList, List.take_replicate, Nat.min_eq_left hm]
theorem one_a (k : Nat) : (str (List.replicate k 97) ++ ⟨#[97]⟩ : ByteArray) = str (List.replicate (k + 1) 97) := by
  apply ByteArray.ext
  apply Array.toList_inj.1
  rw [List.replicate_succ']
  simp [str]
/-- What the law lays in memory. -/
abbrev want : Obj := .cells #[.string ⟨#[57, 102, 52, 51, 57, 48, 102, 56, 100, 51, 48, 99, 50, 100, 100, 57, 50, 101, 99, 57, 102, 48, 57, 53, 98, 54, 53, 101, 50, 98, 57, 97, 101, 57, 98, 48, 97, 57, 50, 53, 97, 53, 50, 53, 56, 101, 50, 52, 49, 99, 57, 102, 49, 101, 57, 49, 48, 102, 55, 51, 52, 51, 49, 56]⟩, .string ⟨#[102, 102, 101, 48, 53, 52, 102, 101, 55, 97, 101, 48, 99, 98, 54, 100, 99, 54, 53, 99, 51, 97, 102, 57, 98, 54, 49, 100, 53, 50, 48, 57, 102, 52, 51, 57, 56, 53, 49, 100, 98, 52, 51, 100, 48, 98, 97, 53, 57, 57, 55, 51, 51, 55, 100, 102, 49, 53, 52, 54, 54, 56, 101, 98]⟩] 9

set_option maxHeartbeats 4000000 in
set_option maxRecDepth 100000 in
theorem walk (n : Int) (hn0 : 0 ≤ n) (hn1 : n ≤ 255) (w : World) (hR : Roots w) :
    Calls Tryd.prog 7 #[.int .u8 n] w fun e w' => e = .returned (.bool true) ∧ Below w.heap.size w w' := by
  have HX := Lib.hid (examples_any w hR)
  have HR := Lib.hid hR
  obtain ⟨A, hA, hHA⟩ := known ((str (List.replicate 64 97)).extract 0 55) ⟨#[57, 102, 52, 51, 57, 48, 102, 56, 100, 51, 48, 99, 50, 100, 100, 57, 50, 101, 99, 57, 102, 48, 57, 53, 98, 54, 53, 101, 50, 98, 57, 97, 101, 57, 98, 48, 97, 57, 50, 53, 97, 53, 50, 53, 56, 101, 50, 52, 49, 99, 57, 102, 49, 101, 57, 49, 48, 102, 55, 51, 52, 51, 49, 56]⟩ _ (by rw [← size_list, cut_a 55 (by omega), List.length_replicate]; omega) ((congrArg sumL (cut_a 55 (by omega))).trans sum_55) (by kernel_rfl)
  obtain ⟨B, hB, hHB⟩ := known ((str (List.replicate 64 97)).extract 0 64) ⟨#[102, 102, 101, 48, 53, 52, 102, 101, 55, 97, 101, 48, 99, 98, 54, 100, 99, 54, 53, 99, 51, 97, 102, 57, 98, 54, 49, 100, 53, 50, 48, 57, 102, 52, 51, 57, 56, 53, 49, 100, 98, 52, 51, 100, 48, 98, 97, 53, 57, 57, 55, 51, 51, 55, 100, 102, 49, 53, 52, 54, 54, 56, 101, 98]⟩ _ (by rw [← size_list, cut_a 64 (by omega), List.length_replicate]; omega) ((congrArg sumL (cut_a 64 (by omega))).trans sum_64) (by kernel_rfl)
  have HA := Lib.hid hA
  have HHA := Lib.hid hHA
  have HB := Lib.hid hB
  have HHB := Lib.hid hHB
  clear hA hHA hB hHB hR
  go_enter Tryd.func7, Tryd.ntmps7
  go_wp2_with fail
  with_reducible refine HX.out.mono ?_
  rintro e w1 ⟨rfl, b1⟩
  go_wp2
  go_loopw [4, 5] (fun v i wr => ∃ (k : Nat) (x : ByteArray), k ≤ 64 ∧ i = .int .i64 k ∧ v = .string x ∧ x = str (List.replicate k 97) ∧ wr = w1) (fun _ i _ => 64 - (intOf i).toNat)
  case atStart => exact ⟨0, _, Nat.zero_le _, rfl, rfl, rfl, rfl⟩
  case round =>
    obtain ⟨k, x, hk, rfl, rfl, hx, rfl⟩ := hrel
    by_cases hlt : k < 64
    · have hltz : (k : Int) < 64 := by omega
      have hadd : ∀ w, Sem.run Tryd.prog (Op.stringOp .add x ⟨#[97]⟩) w = .ok (.string (x ++ ⟨#[97]⟩)) w := fun w => run_string_add_sum w _ _ (by rw [hx, str_size, List.length_replicate]; show k + 1 ≤ _; omega)
      have HS : Hid (x ++ ⟨#[97]⟩ = str (List.replicate (k + 1) 97)) := Lib.hid (by rw [hx, one_a])
      clear hx
      go_wp2
      go_roundw
      case rel => exact ⟨k + 1, _, by omega, by go_num, rfl, HS.out, trivial⟩
      case measure => simp [intOf]; omega
    · obtain rfl : k = 64 := by omega
      rw [← hx] at HA HB
      have hxs : x.size = 64 := by rw [hx, str_size, List.length_replicate]
      clear hx
      obtain hp | hp : n % 2 = 1 ∨ n % 2 = 0 := by omega
      · go_wp2_with fail
        have hW : Below wr.heap.size wr ((wr.alloc want).alloc (.cells #[.int .i64 55, .int .i64 64] 3)) := ((Below.refl _ _).alloc (Nat.le_refl _) _).alloc (by simp) _
        have hC : ((wr.alloc want).alloc (.cells #[.int .i64 55, .int .i64 64] 3)).heap[wr.heap.size]? = some want := (heap_alloc_old _ _ (by simp)).trans (heap_alloc_new wr _)
        generalize (wr.alloc want).alloc (.cells #[.int .i64 55, .int .i64 64] 3) = W at hW hC ⊢
        have HRW := Lib.hid (HR.out.below (grows b1 hW))
        have hlt' := (Array.getElem?_eq_some_iff.1 hC).1
        have cq : ∀ p : Quiet.Behind W, p.world.cell? ⟨wr.heap.size, 1, none⟩ = some _ := fun p => Quiet.cell (a := ⟨wr.heap.size, 1, none⟩) hlt' (cell_at (i := 1) hC rfl) p
        clear hC hlt'
        refine Quiet.region (by kernel_rfl) (by kernel_rfl) ?_
        repeat (go_big_quiet_step (first | (go_at_call 11; (with_reducible exact Quiet.calls (HB.out _ (HRW.out.below (Quiet.Behind.below _))))) | (go_at_call 13; (with_reducible exact Quiet.calls (HHB.out _)))))
        refine wpQuiet_nil ?_
        rintro _ ⟨pq, rfl⟩
        have hq := pq.below
        generalize pq.world = wq at hq ⊢
        go_wp2
        go_ret
        exact ⟨rfl, grows (grows b1 hW) hq⟩
      · go_wp2_with fail
        have hW : Below wr.heap.size wr ((wr.alloc want).alloc (.cells #[.int .i64 55, .int .i64 64] 3)) := ((Below.refl _ _).alloc (Nat.le_refl _) _).alloc (by simp) _
        have hC : ((wr.alloc want).alloc (.cells #[.int .i64 55, .int .i64 64] 3)).heap[wr.heap.size]? = some want := (heap_alloc_old _ _ (by simp)).trans (heap_alloc_new wr _)
        generalize (wr.alloc want).alloc (.cells #[.int .i64 55, .int .i64 64] 3) = W at hW hC ⊢
        have HRW := Lib.hid (HR.out.below (grows b1 hW))
        have hlt' := (Array.getElem?_eq_some_iff.1 hC).1
        have cq : ∀ p : Quiet.Behind W, p.world.cell? ⟨wr.heap.size, 0, none⟩ = some _ := fun p => Quiet.cell (a := ⟨wr.heap.size, 0, none⟩) hlt' (cell_at (i := 0) hC rfl) p
        clear hC hlt'
        refine Quiet.region (by kernel_rfl) (by kernel_rfl) ?_
        repeat (go_big_quiet_step (first | (go_at_call 11; (with_reducible exact Quiet.calls (HA.out _ (HRW.out.below (Quiet.Behind.below _))))) | (go_at_call 13; (with_reducible exact Quiet.calls (HHA.out _)))))
        refine wpQuiet_nil ?_
        rintro _ ⟨pq, rfl⟩
        have hq := pq.below
        generalize pq.world = wq at hq ⊢
        go_wp2
        go_ret
        exact ⟨rfl, grows (grows b1 hW) hq⟩

open Go.ChangeShapes Go.WideShapes Go.ChangeAt
set_option maxRecDepth 100000 in
theorem lifted (os : Os) (started : os.Started) (H : Type) (enc : TypeId × Value → H) :
    ReturnsInHanded {} Tryd.checked os 7 .any (fun w args => (Rows.shaKnownSpec.pre enc Tryd.prog Tryd.f7 Rows.shaKnownRow.domain false w args ∧ laidMetH Tryd.prog Rows.shaKnownRow.laid w) ∧ sizedMet enc Tryd.prog Tryd.f7 (OpenSpec.ofChange Rows.shaKnownSpec) false w args)
      (Rows.shaKnownSpec.post enc Tryd.prog Tryd.f7 false true false false) := by
  refine returnsInHanded_of_change_and (C := Tryd.checked) (X := fun w _ => laidMetH Tryd.prog Rows.shaKnownRow.laid w) (fun _ _ _ hh h => h.of_heap hh) Ends.own started (by kernel_rfl) Tryd.func7
    (ChangeSpec.witness_shaped (enc := enc) (C := Tryd.checked) (os := os) (X := fun w _ => laidMetH Tryd.prog Rows.shaKnownRow.laid w) false (World.laidAll Tryd.prog os Rows.shaKnownRow.laid) #[.int .u8 0] 8 (World.laidAll_os _ _ _)
      (World.shaped_of_ZipB (by kernel_rfl) (by kernel_rfl)) (by kernel_rfl) (by kernel_rfl) (by kernel_rfl)
      (by rw [MakeChecks.laidMetH_plain _ _ _ (by kernel_rfl)]; exact laidMet_laidAll _ (by kernel_rfl) (by kernel_rfl))) ?_
  intro W base args ds gs before hval0 hW _ _ hL _
  have hval : ∀ (j : Nat) t v, Tryd.f7.params[j]? = some t → args[j]? = some v → Value.okWide Tryd.prog W .any base t v := hval0
  have hW' := hW
  obtain ⟨p, q, hA0, hV, rfl, hfz, hnd⟩ := hW
  have hA : DataW.TrodAll enc Tryd.prog W 0 (fun _ => true) true Tryd.f7.params.toList args.toList ds p := hA0
  rw [Tryd.params7] at hA hval
  obtain ⟨v0, vs0, d0, ds0, p0, q0, hargs, rfl, rfl, h0, r0⟩ := trodAll_cons hA
  obtain ⟨rfl, rfl, rfl⟩ := trodAll_nil r0
  obtain rfl : args = #[v0] := by cases args; simp_all
  obtain ⟨rfl, rfl⟩ := trodVars_none hV
  obtain ⟨a0, rfl, rfl, rfl, w0⟩ := open_int Tryd.underlying5 (hval 0 5 v0 rfl rfl) h0
  have b0 := bounds_u8 w0
  refine (walk a0 b0.1 b0.2 W (Sha.roots_met (by kernel_rfl) hL)).mono fun e W' ⟨he, hb⟩ => ?_
  subst he
  exact ⟨_, rfl, Ends.law_end Ends.laidOut (by rw [Tryd.params7]; decide +kernel) rfl (by kernel_rfl) Tryd.underlying4 hW' rfl hb⟩

theorem row : Rows.ShaKnownSaid :=
  OpenClaim.holds_of_wide 7 Tryd.f7 rfl rfl rfl rfl rfl rfl rfl ⟨rfl, rfl, rfl, rfl, rfl⟩ rfl rfl rfl rfl rfl (by kernel_rfl) Tryd.func7 (by kernel_rfl)
    (of_decide_eq_true (by kernel_rfl)) (by unfold Func.isWrapper; first | (rw [if_pos (by decide +kernel)]; kernel_rfl) | (rw [if_neg (by decide +kernel)]; exact ⟨rfl, rfl⟩))
    (fun os started H enc _ => lifted os started H enc)

/-- The statement: the tied card. -/
theorem proved : Rows.ShaKnownCardSaid :=
  Claim7.holds_tied_plain_at .later [] [.data, .data] true Rows.shaKnownCard.stood.harness false row (fun _ h => by cases h) (by kernel_rfl) (fun _ h => by cases h) shaKnown_row_tie rfl ⟨rfl, rfl⟩ (by kernel_rfl) rfl
    (fun f fn hf hfn => by
      obtain rfl : f = 7 := Option.some.inj ((show Tryd.prog.funcNamed "demesne/demesnelaw06.ShaKnown" = some 7 by kernel_rfl).symm.trans hf) |>.symm
      obtain rfl : fn = Tryd.f7 := (Option.some.inj (Tryd.func7.symm.trans hfn)).symm
      exact ⟨by kernel_rfl, fun j t ht => by
        rw [Tryd.params7] at ht
        have hm : t ∈ [5] := by simpa using Array.mem_of_getElem? ht
        have hall : ([5].all fun u => !Tryd.prog.wantsStandIn u) = true := by kernel_rfl
        exact (show Tryd.prog.wantsStandIn t = false by simpa using List.all_eq_true.1 hall t hm)⟩)
    (by kernel_rfl)
end Go.Proofs.YthknghbopfmlpaaDoor.shaKnown
