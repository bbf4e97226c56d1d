/- Proved: demesnelaw02.WordOnce answers true for every text, and leaves it as it was. Its row lists two tables of Go's library (utf8.first, utf8.acceptRanges) as they are laid; the call reads neither. -/
import Derived.Test.YtmcpeejmmhaohaaDoorWExamples
import Derived.Test.YtmcpeejmmhaohaaDoorWGlue
import Derived.Test.YtmcpeejmmhaohaaDoorEnd
import Derived.Test.YtmcpeejmmhaohaaDoorTie
import Derived.Test.YtmcpeejmmhaohaaDoorCards
import Derived.LaidMore
import Derived.Lay
import Derived.SevenTiedAt
import Derived.Stop.Joined
namespace Go.Proofs.YtmcpeejmmhaohaaDoor.wordOnce
open Go.RowKit Go.Proofs.YtmcpeejmmhaohaaDoor.Word


set_option maxRecDepth 100000 in
set_option maxHeartbeats 4000000 in
theorem walk (s : ByteArray) (hs : s.size ≤ 140737488351232) (w : World) :
    Calls Tryd.prog 8 #[.string s] w fun e w' => e = .returned (.bool true) ∧ Below w.heap.size w w' := by
  obtain ⟨ps, hps⟩ : ∃ ps, parts s.data.toList = ps := ⟨_, rfl⟩
  have HP := Lib.hid (parts_is s (by omega) ps hps)
  have h3 : ps.length ≤ 3 := by rw [← hps]; exact parts_le _
  by_cases hne : ps = []
  · subst hne
    have HU : Hid (ups s.data.toList = []) := Lib.hid (by unfold ups; rw [hps]; rfl)
    have HR := Lib.hid (parts_none hps)
    have HN := Lib.hid (under_none (a := s.data.toList) hps)
    clear hps h3
    go_enter Tryd.func8, Tryd.ntmps8
    go_wp2_with fail
    refine (examples_any _).mono ?_
    rintro e w1 ⟨rfl, hb1⟩
    go_wp2_with fail
    refine (HP.out _).mono ?_
    rintro e w2 ⟨v, rfl, hv, hb2⟩
    rcases hv with ⟨_, rfl⟩ | ⟨_, _, _, _, h, _⟩
    · have hb := grows hb1 hb2
      clear hb1 hb2
      go_wp2_with fail
      go_loopw [5, 6] (fun p i wr => p = .string ⟨#[]⟩ ∧ i = .int .i64 0 ∧ wr = w2) (fun _ _ _ => 0)
      case atStart => exact ⟨rfl, rfl, rfl⟩
      case round =>
        obtain ⟨rfl, rfl, rfl⟩ := hrel
        go_wp2_with fail
        refine (right_is s false HR.out _).mono ?_
        rintro e w3 ⟨rfl, hb3⟩
        have hb' := grows hb hb3
        clear hb hb3
        go_wp2_with fail
        refine (ups_is s (by omega) [] HU.out _).mono ?_
        rintro e w4 ⟨v4, rfl, hv4, hb4⟩
        rcases hv4 with ⟨_, rfl⟩ | ⟨_, _, _, _, h, _⟩
        · have hb := grows hb' hb4
          clear hb' hb4
          go_wp2_with fail
          refine (under_is s s (by omega) false HN.out _).mono ?_
          rintro e w5 ⟨rfl, hb5⟩
          have hb' := grows hb hb5
          go_wp2
          go_ret
          exact ⟨rfl, hb'⟩
        · exact absurd rfl h
    · exact absurd rfl h
  · have hpl := List.length_pos_iff.2 hne
    have hne' : parts s.data.toList ≠ [] := by rw [hps]; exact hne
    have HG := Lib.hid (show glue ps = s.data.toList by rw [← hps]; exact parts_glue hne')
    have HR := Lib.hid (right_of_parts hne')
    rw [hps] at HR
    have HU := Lib.hid (under_self hne')
    have HA : Hid (∀ a ∈ ps, right a = true) := Lib.hid (fun a ha => parts_right (l := s.data.toList) (by rw [hps]; exact ha))
    clear hps hne hne'
    go_enter Tryd.func8, Tryd.ntmps8
    go_wp2_with fail
    refine (examples_any _).mono ?_
    rintro e w1 ⟨rfl, hb1⟩
    go_wp2_with fail
    refine (HP.out _).mono ?_
    rintro e w2 ⟨v, rfl, hv, hb2⟩
    rcases hv with ⟨rfl, rfl⟩ | ⟨g, cap, rfl, hg, _, hcap, hcell⟩
    · simp at hpl
    have HC := Lib.hid hcell
    have hb := grows hb1 hb2
    clear hb1 hb2 hcell
    go_wp2_with fail
    go_loopw [5, 6] (fun p i wr => ∃ k : Nat, k ≤ ps.length ∧ p = .string (str (glue (ps.take k))) ∧ i = .int .i64 k ∧ Below w2.heap.size w2 wr) (fun _ i _ => ps.length - (intOf i).toNat)
    case atStart => exact ⟨0, Nat.zero_le _, rfl, rfl, Below.refl _ _⟩
    case round =>
      obtain ⟨k, hk, rfl, rfl, hbr⟩ := hrel
      by_cases hlt : k < ps.length
      · obtain ⟨p, hp⟩ : ∃ p, p = ps[k] := ⟨_, rfl⟩
        have hcl : wr.cell? ⟨g, k, none⟩ = some (.string (str p)) := by rw [hbr.cell hg, HC.out k hlt, getD_lt hlt, hp]
        have HQ := Lib.hid (show right p = true from HA.out p (by rw [hp]; exact List.getElem_mem hlt))
        have HT := Lib.hid (take_glue hlt)
        rw [← hp] at HT
        have hfree := (right_free HQ.out).1
        have hsz : p.length ≤ 32 := (right_free HQ.out).2
        have hps := str_size p
        have HF := Lib.hid hfree
        obtain ⟨q, hq⟩ : ∃ q, q = str (glue (ps.take k)) := ⟨_, rfl⟩
        have HQ2 := Lib.hid hq
        have hqs : q.size ≤ 99 := by
          rw [hq, str_size]
          have h1 := glue_len (ps.take k) (fun a ha => (right_free (HA.out a (List.mem_of_mem_take ha))).2)
          have h2 := List.length_take_le k ps
          omega
        rw [← hq]
        clear hp hfree hq
        have hin : Hid (∀ j (hj : j < p.length), (str p)[j]'(by rw [str_size]; exact hj) ≠ 47) := Lib.hid (fun j hj h => HF.out (by
          have e : (str p)[j]'(by rw [str_size]; exact hj) = p[j] := by simp [str, ByteArray.getElem_eq_getElem_data]
          rw [e] at h
          rw [← h]
          exact List.getElem_mem hj))
        have hk0 : k = 0 ∨ 0 < k := by omega
        rcases hk0 with rfl | hk0
        all_goals
          go_wp2_with fail
          refine (right_is (str p) true (by rw [str_toList]; exact HQ.out) _).mono ?_
          rintro e w3 ⟨rfl, hb3⟩
          have hcl3 : w3.cell? ⟨g, _, none⟩ = some (.string (str p)) := (hb3.cell (World.block_lt_of_cell? _ _ hcl)).trans hcl
          have hbr3 := hbr.trans (hb3.mono hbr.size)
          clear hcl hb3 hbr
          go_wp2_with fail
          go_loop [7] (fun i => ∃ j : Nat, j ≤ p.length ∧ i = .int .i64 j) (fun i => p.length - (intOf i).toNat)
          case atStart => exact ⟨0, Nat.zero_le _, rfl⟩
          case round =>
            obtain ⟨j, hj, rfl⟩ := hrel
            by_cases hjl : j < p.length
            · have hjs : j < (str p).size := by rw [hps]; exact hjl
              have hb : (((str p)[j].toNat : Int) == 47) = false := by
                rw [beq_eq_false_iff_ne]
                intro h
                exact hin.out j hjl (UInt8.toNat_inj.1 (show (str p)[j].toNat = 47 by omega))
              go_wp2
              go_round
              case rel => exact ⟨j + 1, by omega, by go_num⟩
              case measure => simp [intOf]; omega
            · go_wp2
              go_roundw
              case rel =>
                first
                  | (refine ⟨k + 1, by omega, ?_, by go_num, hbr3⟩
                     rw [HT.out, HQ2.out, if_neg (by omega)]; congr 1; rw [show (⟨#[47]⟩ : ByteArray) = str [47] from rfl, str_append, str_append]; simp)
                  | (refine ⟨0 + 1, by omega, ?_, by go_num, hbr3⟩
                     rw [HT.out, HQ2.out, if_pos trivial]; congr 1)
              case measure => simp [intOf]; omega
      · have hkn : k = ps.length := by omega
        have HK := Lib.hid (show str (glue (ps.take k)) = s by rw [hkn, List.take_length, HG.out, str_data])
        have hb' := hb.trans (hbr.mono hb.size)
        clear hkn hb
        rw [HK.out]
        have hn0 : ((ps.length : Int) == 0) = false := by rw [beq_eq_false_iff_ne]; omega
        have h3' : (ps.length : Int) ≤ 3 := by omega
        go_wp2_with fail
        refine (under_is s s (by omega) true HU.out _).mono ?_
        rintro e w4 ⟨rfl, hb4⟩
        have hb := grows hb' hb4
        clear hb' hb4
        by_cases h1 : ps.length = 1
        · have e1 : ((ps.length : Int) == 1) = true := by rw [beq_iff_eq]; omega
          go_wp2_with fail
          refine (right_is s true (by rw [HR.out, h1]; rfl) _).mono ?_
          rintro e w5 ⟨rfl, hb5⟩
          have hb' := grows hb hb5
          clear h1
          go_wp2
          go_ret
          exact ⟨rfl, hb'⟩
        · have e1 : ((ps.length : Int) == 1) = false := by rw [beq_eq_false_iff_ne]; omega
          go_wp2_with fail
          refine (right_is s false (by rw [HR.out]; simpa using h1) _).mono ?_
          rintro e w5 ⟨rfl, hb5⟩
          have hb' := grows hb hb5
          clear h1
          go_wp2
          go_ret
          exact ⟨rfl, hb'⟩
open Go.ChangeShapes Go.WideShapes Go.ChangeAt
set_option maxRecDepth 100000 in
theorem lifted (os : Os) (started : os.Started) (H : Type) (enc : TypeId × Value → H) :
    ReturnsInHanded {} Tryd.checked os 8 .any (fun w args => (Rows.wordOnceSpec.pre enc Tryd.prog Tryd.f8 Rows.wordOnceRow.domain false w args ∧ laidMetH Tryd.prog Rows.wordOnceRow.laid w) ∧ sizedMet enc Tryd.prog Tryd.f8 (OpenSpec.ofChange Rows.wordOnceSpec) false w args)
      (Rows.wordOnceSpec.post enc Tryd.prog Tryd.f8 false true false false) := by
  refine returnsInHanded_of_change_and (C := Tryd.checked) (X := fun w _ => laidMetH Tryd.prog Rows.wordOnceRow.laid w) (fun _ _ _ hh h => h.of_heap hh) Ends.own started (by kernel_rfl) Tryd.func8
    (ChangeSpec.witness_shaped (enc := enc) (C := Tryd.checked) (os := os) (X := fun w _ => laidMetH Tryd.prog Rows.wordOnceRow.laid w) false (World.laidAll Tryd.prog os Rows.wordOnceRow.laid) #[.string ⟨#[]⟩] 8 (World.laidAll_os _ _ _)
      (World.shaped_of_ZipB (by kernel_rfl) (by kernel_rfl)) (by kernel_rfl) (by kernel_rfl) (by kernel_rfl)
      (by rw [MakeChecks.laidMetH_plain _ _ _ (by kernel_rfl)]; exact laidMet_laidAll _ (by kernel_rfl) (by kernel_rfl))) ?_
  intro W base args ds gs before hval0 hW _ hsz0 _ _
  have hval : ∀ (j : Nat) t v, Tryd.f8.params[j]? = some t → args[j]? = some v → Value.okWide Tryd.prog W .any base t v := hval0
  have hsz : (DataW.weightsEach Tryd.prog (Tryd.f8.params.toList ++ Rows.wordOnceSpec.plain.varTypes Tryd.prog) (ds ++ gs)).all (· ≤ reachBytes) = true := hsz0
  have hW' := hW
  obtain ⟨p, q, hA0, hV, rfl, hfz, hnd⟩ := hW
  have hA : DataW.TrodAll enc Tryd.prog W 0 (fun _ => true) true Tryd.f8.params.toList args.toList ds p := hA0
  rw [Tryd.params8] at hA hval hsz
  obtain ⟨v0, vs0, d0, ds0, p0, q0, hargs, rfl, rfl, h0, r0⟩ := trodAll_cons hA
  obtain ⟨rfl, rfl, rfl⟩ := trodAll_nil r0
  obtain rfl : args = #[v0] := by cases args; simp_all
  obtain ⟨rfl, rfl⟩ := trodVars_none hV
  obtain ⟨a0, rfl, rfl, rfl, w0⟩ := Go.ChangeMaps.open_string Tryd.underlying9 (hval 0 9 v0 rfl rfl) h0
  have b0 : a0.size ≤ 140737488351232 := by have := sized_string hsz (j := 0) rfl rfl; rw [Array.length_toList] at this; exact this
  refine (walk a0 b0 W).mono fun e W' ⟨he, hb⟩ => ?_
  subst he
  exact ⟨_, rfl, Ends.law_end Ends.laidOut (by rw [Tryd.params8]; decide +kernel) rfl (by kernel_rfl) Tryd.underlying4 hW' rfl hb⟩

theorem row : Rows.WordOnceSaid :=
  OpenClaim.holds_of_wide 8 Tryd.f8 rfl rfl rfl rfl rfl rfl rfl ⟨rfl, rfl, rfl, rfl, rfl⟩ rfl rfl rfl rfl rfl (by kernel_rfl) Tryd.func8 (by kernel_rfl)
    (of_decide_eq_true (by kernel_rfl)) (by unfold Func.isWrapper; first | (rw [if_pos (by decide +kernel)]; kernel_rfl) | (rw [if_neg (by decide +kernel)]; exact ⟨rfl, rfl⟩))
    (fun os started H enc _ => lifted os started H enc)

/-- The statement: the tied card. -/
theorem proved : Rows.WordOnceCardSaid :=
  Claim7.holds_tied_plain_at .later [] [.data, .pinned] true Rows.wordOnceCard.stood.harness false row (fun _ h => by cases h) (by kernel_rfl) (fun _ h => by cases h) wordOnce_row_tie rfl ⟨rfl, rfl⟩ (by kernel_rfl) rfl
    (fun f fn hf hfn => by
      obtain rfl : f = 8 := Option.some.inj ((show Tryd.prog.funcNamed "demesne/demesnelaw02.WordOnce" = some 8 by kernel_rfl).symm.trans hf) |>.symm
      obtain rfl : fn = Tryd.f8 := (Option.some.inj (Tryd.func8.symm.trans hfn)).symm
      exact ⟨by kernel_rfl, fun j t ht => by
        rw [Tryd.params8] at ht
        have hm : t ∈ [9] := by simpa using Array.mem_of_getElem? ht
        have hall : ([9].all fun u => !Tryd.prog.wantsStandIn u) = true := by kernel_rfl
        exact (show Tryd.prog.wantsStandIn t = false by simpa using List.all_eq_true.1 hall t hm)⟩)
    (by kernel_rfl)
end Go.Proofs.YtmcpeejmmhaohaaDoor.wordOnce
