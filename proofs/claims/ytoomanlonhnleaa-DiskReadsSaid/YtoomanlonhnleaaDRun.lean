/- What demesnelaw09.run makes of a new disk, whatever acts are done with it: what was synced is there, files have room. -/
import Derived.Test.YtoomanlonhnleaaDRunM
import Derived.Deep.DeepCutAuto
namespace Go.Proofs.Ytoomanlonhnleaa.Disk
open Go.RowKit

set_option maxRecDepth 100000 in
set_option maxHeartbeats 4000000 in
theorem run_any (N : Nat) (hN : N ≤ 100000) (ls : List Ac) (v : Value) (hok : ∀ t ∈ ls, t.ok) (hst : ∀ t ∈ ls, t.2.2.1.size ≤ 1125899906842624) (w : World) (hv : ARow w v ls) :
    Calls Try.prog 28 #[valD (new N), v] w fun e w' => ∃ d a b, Ok N d a b ∧ e = .returned (retR d a b) ∧ Below w.heap.size w w' := by
  have HV := Lib.hid hv
  obtain ⟨an, cap, rfl, hcap, hmax⟩ := hv.slice
  have HO := Lib.hid (ok_new hN)
  have HOK := Lib.hid hok
  have HST := Lib.hid hst
  have hlen : ls.length ≤ 9223372036854775807 := by unfold maxLen at hmax; omega
  clear hv hok hst hcap hmax
  obtain ⟨D0, hD0⟩ : ∃ D0, new N = D0 := ⟨_, rfl⟩
  rw [hD0] at HO ⊢
  clear hD0
  unfold valD
  go_enter Try.func28, Try.ntmps28
  go_wp2
  go_loopw [7] (fun i wr => ∃ k : Nat, ∃ d a b, i = .int .i64 k ∧ k ≤ ls.length ∧ Hid (Ok N d a b) ∧ Hid (RM w wr d a b)) (fun i _ => ls.length - (intOf i).toNat)
  case atStart => exact ⟨0, D0, empty, empty, rfl, by omega, HO, Lib.hid (rm_start w D0)⟩
  case round =>
    obtain ⟨k, d, a, b, rfl, hk, HI, HM⟩ := hrel
    by_cases hkn : k < ls.length
    case neg =>
      have hki : ¬ (k : Int) < (ls.length : Int) := by omega
      go_upto_region 20 with fail
      have hMd := HM.out.drew
      have hE := hMd.end_
      refine Late.start (m := 3) (S := fun x => x.heap[w.heap.size]? = some (box d) ∧ x.heap[w.heap.size + 1 + 1 + 1]? = some (pair a b)) (by kernel_rfl) ⟨hMd.d, hMd.s⟩ (fun hHeld => ?_)
      (refine Late.take (i := 0) (v := .agg (cellsD d)) rfl (by kernel_rfl) (by kernel_rfl) (by kernel_rfl) (by kernel_rfl) (by kernel_rfl) (fun _ _ _ h => h) (Or.inl ⟨by rfl, ?_⟩) hHeld ?_; focus (intro w hSw; (try dsimp only at hSw); exact Whole.held_load _ 26 rfl _ _ _ rfl hSw.1 Try.underlying26 rfl szD))
      (refine Late.take (i := 1) (v := .agg #[.string a, .string b]) rfl (by kernel_rfl) (by kernel_rfl) (by kernel_rfl) (by kernel_rfl) (by kernel_rfl) (fun _ _ _ h => h) (Or.inl ⟨by rfl, ?_⟩) hHeld ?_; focus (intro w hSw; (try dsimp only at hSw); exact Whole.held_load _ 56 rfl _ _ _ rfl hSw.2 Try.underlying56 rfl szP))
      (refine Late.ready (rs := [2]) (by kernel_rfl) (by simp) ?_; refine Late.Ready.cons rfl (fun K hK => ?_) Late.Ready.nil; (refine Whole.step_store wr.drew rfl _ _ 26 rfl (w.heap.size + 1) _ (cellsD d) rfl rfl hMd.r szD rfl (one_cells d) ?_); refine hK.out _ _ ⟨(setRow_other _ _ _ _ (by omega)).trans hMd.d, (setRow_other _ _ _ _ (by omega)).trans hMd.s⟩ (fun hHeld => ?_); clear hK K)
      (refine Late.ready (rs := [3]) (by kernel_rfl) (by simp) ?_; refine Late.Ready.last (by decide) rfl (fun K hK => ?_); (refine Whole.step_store _ rfl _ _ 56 rfl (w.heap.size + 1 + 1) _ #[.string a, .string b] rfl rfl hE.2.2.1 szP rfl (one2 a b) ?_); refine hK.out _ _ ?_; clear hK K)
      refine Late.done (by kernel_rfl) ?_ _
      go_wp2
      refine bodyPost_ret (v := retR d a b) (result_run rfl _ _ d a b rfl rfl hE.1 hE.2.1) rfl ⟨d, a, b, HI.out, rfl, hE.2.2.2⟩
    case pos =>
      have hki : (k : Int) < (ls.length : Int) := by omega
      have c5 := Boxes.cell_at (i := 5) HM.out.d (v := .bool d.down) rfl
      by_cases hdn : d.down = true
      case pos =>
        rw [hdn] at c5
        go_upto_region 20 with fail
        have hMd := HM.out.drew
        have hE := hMd.end_
        refine Late.start (m := 3) (S := fun x => x.heap[w.heap.size]? = some (box d) ∧ x.heap[w.heap.size + 1 + 1 + 1]? = some (pair a b)) (by kernel_rfl) ⟨hMd.d, hMd.s⟩ (fun hHeld => ?_)
        (refine Late.take (i := 0) (v := .agg (cellsD d)) rfl (by kernel_rfl) (by kernel_rfl) (by kernel_rfl) (by kernel_rfl) (by kernel_rfl) (fun _ _ _ h => h) (Or.inl ⟨by rfl, ?_⟩) hHeld ?_; focus (intro w hSw; (try dsimp only at hSw); exact Whole.held_load _ 26 rfl _ _ _ rfl hSw.1 Try.underlying26 rfl szD))
        (refine Late.take (i := 1) (v := .agg #[.string a, .string b]) rfl (by kernel_rfl) (by kernel_rfl) (by kernel_rfl) (by kernel_rfl) (by kernel_rfl) (fun _ _ _ h => h) (Or.inl ⟨by rfl, ?_⟩) hHeld ?_; focus (intro w hSw; (try dsimp only at hSw); exact Whole.held_load _ 56 rfl _ _ _ rfl hSw.2 Try.underlying56 rfl szP))
        (refine Late.ready (rs := [2]) (by kernel_rfl) (by simp) ?_; refine Late.Ready.cons rfl (fun K hK => ?_) Late.Ready.nil; (refine Whole.step_store wr.drew rfl _ _ 26 rfl (w.heap.size + 1) _ (cellsD d) rfl rfl hMd.r szD rfl (one_cells d) ?_); refine hK.out _ _ ⟨(setRow_other _ _ _ _ (by omega)).trans hMd.d, (setRow_other _ _ _ _ (by omega)).trans hMd.s⟩ (fun hHeld => ?_); clear hK K)
        (refine Late.ready (rs := [3]) (by kernel_rfl) (by simp) ?_; refine Late.Ready.last (by decide) rfl (fun K hK => ?_); (refine Whole.step_store _ rfl _ _ 56 rfl (w.heap.size + 1 + 1) _ #[.string a, .string b] rfl rfl hE.2.2.1 szP rfl (one2 a b) ?_); refine hK.out _ _ ?_; clear hK K)
        refine Late.done (by kernel_rfl) ?_ _
        go_wp2
        refine bodyPost_ret (v := retR d a b) (result_run rfl _ _ d a b rfl rfl hE.1 hE.2.1) rfl ⟨d, a, b, HI.out, rfl, hE.2.2.2⟩
      case neg =>
        rw [Bool.not_eq_true] at hdn
        rw [hdn] at c5
        obtain ⟨g, o, rfl, hg0, hcells0⟩ := HV.out.cells hkn
        have hg : g < wr.heap.size := Nat.lt_of_lt_of_le hg0 HM.out.b.size
        have hcells := hcells0.below hg0 HM.out.b
        obtain ⟨t, ht⟩ : ∃ t, ls[k]? = some t := ⟨_, List.getElem?_eq_getElem hkn⟩
        have htok := HOK.out t (List.mem_of_getElem? ht)
        have hts := HST.out t (List.mem_of_getElem? ht)
        obtain ⟨m0, m1, m2, m3⟩ := hcells k t ht
        obtain ⟨kd, fi, s, n⟩ := t
        obtain ⟨hk0, hk1, hf0, hf1, hn0, hn1⟩ := htok
        dsimp only at hk0 hk1 hf0 hf1 hn0 hn1 hts m0 m1 m2 m3
        go_upto_region 8 with fail
        clear hcells hcells0 HV HO ht c5 m0
        have hF01 : fi % 2 = 0 ∨ fi % 2 = 1 := by omega
        obtain ⟨F, hF⟩ : ∃ F, fi % 2 = F := ⟨_, rfl⟩
        rw [hF] at hF01 ⊢
        clear hF
        rcases (show kd % 4 = 0 ∨ kd % 4 = 1 ∨ kd % 4 = 2 ∨ kd % 4 = 3 by omega) with hK | hK | hK | hK
        all_goals
          rw [hK]
          clear hK hk0 hk1
        · go_upto_region 9 with fail
          have HW := Lib.hid (fun w' => write_any d HI.out.fair F s (by have := HI.out.room; omega) w')
          have HY := Lib.hid (HI.out.write F s)
          obtain ⟨y, er, hy⟩ : ∃ y er, write d F s = (y, er) := ⟨_, _, rfl⟩
          rw [hy] at HW HY
          clear hy
          unfold retD valD at HW
          dsimp only at HW HY
          have hMd := HM.out.drew
          have m2d : wr.drew.cell? ⟨g, o + k * 4 + 2, none⟩ = some (.string s) := m2
          refine Late.start (m := 9) (S := fun x => x.heap[w.heap.size]? = some (box d) ∧ x.cell? ⟨g, o + k * 4 + 2, none⟩ = some (.string s)) (by kernel_rfl) ⟨hMd.d, m2d⟩ (fun hHeld => ?_)
          (refine Late.take (i := 0) (v := .agg (cellsD d)) rfl (by kernel_rfl) (by kernel_rfl) (by kernel_rfl) (by kernel_rfl) (by kernel_rfl) (fun _ _ _ h => h) (Or.inl ⟨by rfl, ?_⟩) hHeld ?_; focus (intro w hSw; (try dsimp only at hSw); exact Whole.held_load _ 26 rfl _ _ _ rfl hSw.1 Try.underlying26 rfl szD))
          (refine Late.take (i := 1) (v := ?_) rfl (by kernel_rfl) (by kernel_rfl) (by kernel_rfl) (by kernel_rfl) (by kernel_rfl) (fun _ _ _ h => h) (Or.inl ⟨by rfl, ?_⟩) hHeld ?_; rotate_left; focus (intro w hSw; (try dsimp only at hSw); go_simp; try with_reducible rfl))
          (refine Late.take (i := 2) (v := ?_) rfl (by kernel_rfl) (by kernel_rfl) (by kernel_rfl) (by kernel_rfl) (by kernel_rfl) (fun _ _ _ h => h) (Or.inl ⟨by rfl, ?_⟩) hHeld ?_; rotate_left; focus (intro w hSw; (try dsimp only at hSw); go_simp; try with_reducible rfl))
          (refine Late.take (i := 3) (v := ?_) rfl (by kernel_rfl) (by kernel_rfl) (by kernel_rfl) (by kernel_rfl) (by kernel_rfl) (fun _ _ _ h => h) (Or.inl ⟨by rfl, ?_⟩) hHeld ?_; rotate_left; focus (intro w hSw; (try dsimp only at hSw); go_simp; try with_reducible rfl))
          (refine Late.take (i := 4) (v := ?_) rfl (by kernel_rfl) (by kernel_rfl) (by kernel_rfl) (by kernel_rfl) (by kernel_rfl) (fun _ _ _ h => h) (Or.inl ⟨by rfl, ?_⟩) hHeld ?_; rotate_left; focus (intro w hSw; (try dsimp only at hSw); go_simp; try with_reducible rfl))
          (refine Late.take (i := 5) (v := ?_) rfl (by kernel_rfl) (by kernel_rfl) (by kernel_rfl) (by kernel_rfl) (by kernel_rfl) (fun _ _ _ h => h) (Or.inl ⟨by rfl, ?_⟩) hHeld ?_; rotate_left; focus (intro w hSw; (try dsimp only at hSw); go_simp; try with_reducible rfl))
          (refine Late.take (i := 6) (v := ?_) rfl (by kernel_rfl) (by kernel_rfl) (by kernel_rfl) (by kernel_rfl) (by kernel_rfl) (fun _ _ _ h => h) (Or.inl ⟨by rfl, ?_⟩) hHeld ?_; rotate_left; focus (intro w hSw; (try dsimp only at hSw); go_simp; try with_reducible rfl))
          (refine Late.ready (rs := [7]) (by kernel_rfl) (by simp) ?_; refine Late.Ready.cons rfl (fun K hK => ?_) Late.Ready.nil; go_simp; go_at_call 10; (with_reducible refine (HW.out _).mono ?_); rintro e w7 ⟨rfl, hb7⟩; have hM7 := hMd.more hb7; have m7 := (hb7.cell (p := ⟨g, o + k * 4 + 2, none⟩) hg).trans m2d; refine hK.out _ _ ⟨hM7.d, m7⟩ (fun hHeld => ?_); clear hK K)
          (refine Late.take (i := 8) (v := ?_) rfl (by kernel_rfl) (by kernel_rfl) (by kernel_rfl) (by kernel_rfl) (by kernel_rfl) (fun _ _ _ h => h) (Or.inl ⟨by rfl, ?_⟩) hHeld ?_; rotate_left; focus (intro w hSw; (try dsimp only at hSw); go_simp; try with_reducible rfl))
          (refine Late.takeP (i := 9) (v := ?_) rfl (by kernel_rfl) (by kernel_rfl) (by kernel_rfl) (by decide) (fun _ _ _ h => h) (Or.inl ⟨by rfl, ?_⟩) ?_; rotate_left; focus (intro w _; go_simp; try with_reducible rfl))
          (refine Late.takeP (i := 10) (v := ?_) rfl (by kernel_rfl) (by kernel_rfl) (by kernel_rfl) (by decide) (fun _ _ _ h => h) (Or.inl ⟨by rfl, ?_⟩) ?_; rotate_left; focus (intro w _; go_simp; try with_reducible rfl))
          (refine Late.ready (rs := [11]) (by kernel_rfl) (by simp) ?_; refine Late.Ready.last (by decide) rfl (fun K hK => ?_); (refine Whole.step_store w7 rfl _ _ 26 rfl w.heap.size _ (cellsD y) rfl rfl hM7.d szD rfl (one_cells y) ?_); refine hK.out _ _ ?_; clear hK K)
          refine Late.done (by kernel_rfl) ?_ _
          have hM8 := hM7.put y
          clear hHeld m7 hM7 hMd hb7 HW
          go_wp2
          go_roundw
          case rel => exact ⟨k + 1, _, _, _, by go_num, by omega, HY, Lib.hid hM8⟩
          case measure =>
            simp [intOf]
            omega
        · go_upto_region 11 with fail
          have HW := Lib.hid (fun w' => sync_any d HI.out.fair F (by have := HI.out.room; omega) w')
          have HN : Hid ((sync d F).2 ≠ 0 → Ok N (sync d F).1 a b) := Lib.hid (fun h => HI.out.syncNo h)
          have HY0 : Hid (F = 0 → (sync d F).2 = 0 → Ok N (sync d F).1 (read (sync d F).1 0) b) := Lib.hid (fun hf h => by subst hf; exact HI.out.sync0 h)
          have HY1 : Hid (F = 1 → (sync d F).2 = 0 → Ok N (sync d F).1 a (read (sync d F).1 1)) := Lib.hid (fun hf h => by subst hf; exact HI.out.sync1 h)
          obtain ⟨y, er, hy⟩ : ∃ y er, sync d F = (y, er) := ⟨_, _, rfl⟩
          rw [hy] at HW HN HY0 HY1
          clear hy
          unfold retD valD at HW
          dsimp only at HW HN HY0 HY1
          go_wp2_with (refine Whole.load wr rfl _ 26 rfl _ _ _ rfl HM.out.d Try.underlying26 rfl szD ?_)
          refine (HW.out _).mono ?_
          rintro e w7 ⟨rfl, hb7⟩
          have hM7 := HM.out.more hb7
          have hM8 := hM7.put y
          have m7 := hM7.d
          by_cases her : er = 0
          case neg =>
            have hne : (er == 0) = false := by rw [beq_eq_false_iff_ne]; exact her
            have HNo := Lib.hid (HN.out her)
            clear HN HY0 HY1 HW hb7 hM7
            go_wp2_with (refine Whole.store w7 rfl rfl _ _ 26 rfl w.heap.size _ (cellsD y) rfl rfl m7 szD rfl (one_cells y) ?_)
            go_roundw
            case rel => exact ⟨k + 1, _, _, _, by go_num, by omega, HNo, Lib.hid hM8⟩
            case measure =>
              simp [intOf]
              omega
          case pos =>
            subst her
            clear HN HW hb7 hM7
            go_upto_region 13 with (refine Whole.store w7 rfl rfl _ _ 26 rfl w.heap.size _ (cellsD y) rfl rfl m7 szD rfl (one_cells y) ?_)
            obtain ⟨W8, hW8⟩ : ∃ W8, W8 = w7.setRow w.heap.size (cellsD y) := ⟨_, rfl⟩
            rw [← hW8] at hM8 ⊢
            clear hW8 m7
            rcases hF01 with rfl | rfl
            · have HY := Lib.hid (HY0.out (by first | rfl | trivial) (by first | rfl | trivial))
              have HRd := Lib.hid (read_any y (by have := HY.out.room; unfold used at this; omega) 0)
              unfold valD at HRd
              obtain ⟨x, hx⟩ : ∃ x, read y 0 = x := ⟨_, rfl⟩
              rw [hx] at HRd HY
              clear hx HY0 HY1
              go_wp2_with (refine Whole.load W8 rfl _ 26 rfl _ _ _ rfl hM8.d Try.underlying26 rfl szD ?_)
              refine (HRd.out _).mono ?_
              rintro e w9 ⟨rfl, hb9⟩
              have hM9 := hM8.more hb9
              obtain ⟨s0, s1⟩ := cells2 hM9.s
              have hfz := thaw hM9.s
              have hM10 := hM9.safe0 x
              clear hM8 hM9 hb9 HRd
              go_wp2
              go_roundw
              case rel => exact ⟨k + 1, _, _, _, by go_num, by omega, HY, Lib.hid hM10⟩
              case measure =>
                simp [intOf]
                omega
            · have HY := Lib.hid (HY1.out (by first | rfl | trivial) (by first | rfl | trivial))
              have HRd := Lib.hid (read_any y (by have := HY.out.room; unfold used at this; omega) 1)
              unfold valD at HRd
              obtain ⟨x, hx⟩ : ∃ x, read y 1 = x := ⟨_, rfl⟩
              rw [hx] at HRd HY
              clear hx HY0 HY1
              go_wp2_with (refine Whole.load W8 rfl _ 26 rfl _ _ _ rfl hM8.d Try.underlying26 rfl szD ?_)
              refine (HRd.out _).mono ?_
              rintro e w9 ⟨rfl, hb9⟩
              have hM9 := hM8.more hb9
              obtain ⟨s0, s1⟩ := cells2 hM9.s
              have hfz := thaw hM9.s
              have hM10 := hM9.safe1 x
              clear hM8 hM9 hb9 HRd
              go_wp2
              go_roundw
              case rel => exact ⟨k + 1, _, _, _, by go_num, by omega, HY, Lib.hid hM10⟩
              case measure =>
                simp [intOf]
                omega
        · go_upto_region 15 with fail
          have HW := Lib.hid (fun w' => cut_any d HI.out.fair F n hn1 (by have := HI.out.room; omega) w')
          have HN : Hid ((cut d F n).2 ≠ 0 → Ok N (cut d F n).1 a b) := Lib.hid (fun h => HI.out.cutNo h)
          have HY0 : Hid (F = 0 → (cut d F n).2 = 0 → Ok N (cut d F n).1 (clip n a) b) := Lib.hid (fun hf h => by subst hf; exact HI.out.cut0 h)
          have HY1 : Hid (F = 1 → (cut d F n).2 = 0 → Ok N (cut d F n).1 a (clip n b)) := Lib.hid (fun hf h => by subst hf; exact HI.out.cut1 h)
          obtain ⟨y, er, hy⟩ : ∃ y er, cut d F n = (y, er) := ⟨_, _, rfl⟩
          rw [hy] at HW HN HY0 HY1
          clear hy
          unfold retD valD at HW
          dsimp only at HW HN HY0 HY1
          have hMd := HM.out.drew
          have m3d : wr.drew.cell? ⟨g, o + k * 4 + 3, none⟩ = some (.int .i64 n) := m3
          refine Late.start (m := 9) (S := fun x => x.heap[w.heap.size]? = some (box d) ∧ x.cell? ⟨g, o + k * 4 + 3, none⟩ = some (.int .i64 n)) (by kernel_rfl) ⟨hMd.d, m3d⟩ (fun hHeld => ?_)
          (refine Late.take (i := 0) (v := .agg (cellsD d)) rfl (by kernel_rfl) (by kernel_rfl) (by kernel_rfl) (by kernel_rfl) (by kernel_rfl) (fun _ _ _ h => h) (Or.inl ⟨by rfl, ?_⟩) hHeld ?_; focus (intro w hSw; (try dsimp only at hSw); exact Whole.held_load _ 26 rfl _ _ _ rfl hSw.1 Try.underlying26 rfl szD))
          (refine Late.take (i := 1) (v := ?_) rfl (by kernel_rfl) (by kernel_rfl) (by kernel_rfl) (by kernel_rfl) (by kernel_rfl) (fun _ _ _ h => h) (Or.inl ⟨by rfl, ?_⟩) hHeld ?_; rotate_left; focus (intro w hSw; (try dsimp only at hSw); go_simp; try with_reducible rfl))
          (refine Late.take (i := 2) (v := ?_) rfl (by kernel_rfl) (by kernel_rfl) (by kernel_rfl) (by kernel_rfl) (by kernel_rfl) (fun _ _ _ h => h) (Or.inl ⟨by rfl, ?_⟩) hHeld ?_; rotate_left; focus (intro w hSw; (try dsimp only at hSw); go_simp; try with_reducible rfl))
          (refine Late.take (i := 3) (v := ?_) rfl (by kernel_rfl) (by kernel_rfl) (by kernel_rfl) (by kernel_rfl) (by kernel_rfl) (fun _ _ _ h => h) (Or.inl ⟨by rfl, ?_⟩) hHeld ?_; rotate_left; focus (intro w hSw; (try dsimp only at hSw); go_simp; try with_reducible rfl))
          (refine Late.take (i := 4) (v := ?_) rfl (by kernel_rfl) (by kernel_rfl) (by kernel_rfl) (by kernel_rfl) (by kernel_rfl) (fun _ _ _ h => h) (Or.inl ⟨by rfl, ?_⟩) hHeld ?_; rotate_left; focus (intro w hSw; (try dsimp only at hSw); go_simp; try with_reducible rfl))
          (refine Late.take (i := 5) (v := ?_) rfl (by kernel_rfl) (by kernel_rfl) (by kernel_rfl) (by kernel_rfl) (by kernel_rfl) (fun _ _ _ h => h) (Or.inl ⟨by rfl, ?_⟩) hHeld ?_; rotate_left; focus (intro w hSw; (try dsimp only at hSw); go_simp; try with_reducible rfl))
          (refine Late.take (i := 6) (v := ?_) rfl (by kernel_rfl) (by kernel_rfl) (by kernel_rfl) (by kernel_rfl) (by kernel_rfl) (fun _ _ _ h => h) (Or.inl ⟨by rfl, ?_⟩) hHeld ?_; rotate_left; focus (intro w hSw; (try dsimp only at hSw); go_simp; try with_reducible rfl))
          (refine Late.ready (rs := [7]) (by kernel_rfl) (by simp) ?_; refine Late.Ready.cons rfl (fun K hK => ?_) Late.Ready.nil; go_simp; go_at_call 14; (with_reducible refine (HW.out _).mono ?_); rintro e w7 ⟨rfl, hb7⟩; have hM7 := hMd.more hb7; have m7 := (hb7.cell (p := ⟨g, o + k * 4 + 3, none⟩) hg).trans m3d; refine hK.out _ _ ⟨hM7.d, m7⟩ (fun hHeld => ?_); clear hK K)
          (refine Late.take (i := 8) (v := ?_) rfl (by kernel_rfl) (by kernel_rfl) (by kernel_rfl) (by kernel_rfl) (by kernel_rfl) (fun _ _ _ h => h) (Or.inl ⟨by rfl, ?_⟩) hHeld ?_; rotate_left; focus (intro w hSw; (try dsimp only at hSw); go_simp; try with_reducible rfl))
          (refine Late.takeP (i := 9) (v := ?_) rfl (by kernel_rfl) (by kernel_rfl) (by kernel_rfl) (by decide) (fun _ _ _ h => h) (Or.inl ⟨by rfl, ?_⟩) ?_; rotate_left; focus (intro w _; go_simp; try with_reducible rfl))
          (refine Late.takeP (i := 10) (v := ?_) rfl (by kernel_rfl) (by kernel_rfl) (by kernel_rfl) (by decide) (fun _ _ _ h => h) (Or.inl ⟨by rfl, ?_⟩) ?_; rotate_left; focus (intro w _; go_simp; try with_reducible rfl))
          (refine Late.ready (rs := [11]) (by kernel_rfl) (by simp) ?_; refine Late.Ready.last (by decide) rfl (fun K hK => ?_); (refine Whole.step_store w7 rfl _ _ 26 rfl w.heap.size _ (cellsD y) rfl rfl hM7.d szD rfl (one_cells y) ?_); refine hK.out _ _ ?_; clear hK K)
          (refine Late.ready (rs := [12]) (by kernel_rfl) (by simp) ?_; refine Late.Ready.last (by decide) rfl (fun K hK => ?_); go_simp; refine hK.out _ _ ?_; clear hK K)
          refine Late.done (by kernel_rfl) ?_ _
          have hM8 := hM7.put y
          have hgw : g ≠ w.heap.size := by omega
          have m8 : (w7.setRow w.heap.size (cellsD y)).cell? ⟨g, o + k * 4 + 3, none⟩ = some (.int .i64 n) := (World.cell?_of_block (w := w7) (setRow_other w7 _ _ _ hgw)).trans m7
          obtain ⟨W8, hW8⟩ : ∃ W8, W8 = w7.setRow w.heap.size (cellsD y) := ⟨_, rfl⟩
          rw [← hW8] at hM8 m8 ⊢
          clear hW8 hHeld m7 hM7 hMd hb7 HW
          by_cases her : er = 0
          case neg =>
            have hne : (er == 0) = false := by rw [beq_eq_false_iff_ne]; exact her
            have HNo := Lib.hid (HN.out her)
            clear HN HY0 HY1
            go_wp2
            go_roundw
            case rel => exact ⟨k + 1, _, _, _, by go_num, by omega, HNo, Lib.hid hM8⟩
            case measure =>
              simp [intOf]
              omega
          case pos =>
            subst her
            clear HN
            rcases hF01 with rfl | rfl
            · have HY := Lib.hid (HY0.out (by first | rfl | trivial) (by first | rfl | trivial))
              go_upto_region 17 with fail
              have hMd := hM8.drew
              have c3 : W8.drew.cell? ⟨g, o + k * 4 + 3, none⟩ = some (.int .i64 n) := m8
              have cs : W8.drew.cell? ⟨w.heap.size + 1 + 1 + 1, 0, none⟩ = some (.string a) := (cells2 hMd.s).1
              have hfz := thaw hM8.s
              obtain ⟨s0, s1⟩ := cells2 hM8.s
              have hsz : ((a.size : Nat) : Int) ≤ 100000 := by have := HI.out.small; omega
              have hM9 := fun x => hMd.safe0 x
              clear HY0 HY1 hMd
              by_cases hna : n < 0
              · have hnn : n = n := by omega
                have mx := max_run n 0 0 (.inl ⟨by omega, rfl⟩)
                have mn := min_run 0 (a.size : Int) 0 (.inl ⟨by omega, rfl⟩)
                rw [show clip n a = ByteArray.empty from clip_none (by omega) _] at HY
                refine Late.start (m := 17) (S := fun x => x.cell? ⟨w.heap.size + 1 + 1 + 1, 0, none⟩ = some (.string a) ∧ x.cell? ⟨g, o + k * 4 + 3, none⟩ = some (.int .i64 n)) (by kernel_rfl) ⟨cs, c3⟩ (fun hHeld => ?_)
                (refine Late.take (i := 0) (v := ?_) rfl (by kernel_rfl) (by kernel_rfl) (by kernel_rfl) (by kernel_rfl) (by kernel_rfl) (fun _ _ _ h => h) (Or.inl ⟨by rfl, ?_⟩) hHeld ?_; rotate_left; focus (intro w hSw; (try dsimp only at hSw); go_simp; try with_reducible rfl))
                (refine Late.take (i := 1) (v := ?_) rfl (by kernel_rfl) (by kernel_rfl) (by kernel_rfl) (by kernel_rfl) (by kernel_rfl) (fun _ _ _ h => h) (Or.inl ⟨by rfl, ?_⟩) hHeld ?_; rotate_left; focus (intro w hSw; (try dsimp only at hSw); go_simp; try with_reducible rfl))
                (refine Late.take (i := 2) (v := ?_) rfl (by kernel_rfl) (by kernel_rfl) (by kernel_rfl) (by kernel_rfl) (by kernel_rfl) (fun _ _ _ h => h) (Or.inl ⟨by rfl, ?_⟩) hHeld ?_; rotate_left; focus (intro w hSw; (try dsimp only at hSw); go_simp; try with_reducible rfl))
                (refine Late.take (i := 3) (v := ?_) rfl (by kernel_rfl) (by kernel_rfl) (by kernel_rfl) (by kernel_rfl) (by kernel_rfl) (fun _ _ _ h => h) (Or.inl ⟨by rfl, ?_⟩) hHeld ?_; rotate_left; focus (intro w hSw; (try dsimp only at hSw); go_simp; try with_reducible rfl))
                (refine Late.take (i := 4) (v := ?_) rfl (by kernel_rfl) (by kernel_rfl) (by kernel_rfl) (by kernel_rfl) (by kernel_rfl) (fun _ _ _ h => h) (Or.inl ⟨by rfl, ?_⟩) hHeld ?_; rotate_left; focus (intro w hSw; (try dsimp only at hSw); go_simp; try with_reducible rfl))
                (refine Late.take (i := 5) (v := ?_) rfl (by kernel_rfl) (by kernel_rfl) (by kernel_rfl) (by kernel_rfl) (by kernel_rfl) (fun _ _ _ h => h) (Or.inl ⟨by rfl, ?_⟩) hHeld ?_; rotate_left; focus (intro w hSw; (try dsimp only at hSw); go_simp; try with_reducible rfl))
                (refine Late.take (i := 6) (v := ?_) rfl (by kernel_rfl) (by kernel_rfl) (by kernel_rfl) (by kernel_rfl) (by kernel_rfl) (fun _ _ _ h => h) (Or.inl ⟨by rfl, ?_⟩) hHeld ?_; rotate_left; focus (intro w hSw; (try dsimp only at hSw); go_simp; try with_reducible rfl))
                (refine Late.take (i := 7) (v := ?_) rfl (by kernel_rfl) (by kernel_rfl) (by kernel_rfl) (by kernel_rfl) (by kernel_rfl) (fun _ _ _ h => h) (Or.inl ⟨by rfl, ?_⟩) hHeld ?_; rotate_left; focus (intro w hSw; (try dsimp only at hSw); go_simp; try with_reducible rfl))
                (refine Late.take (i := 8) (v := ?_) rfl (by kernel_rfl) (by kernel_rfl) (by kernel_rfl) (by kernel_rfl) (by kernel_rfl) (fun _ _ _ h => h) (Or.inl ⟨by rfl, ?_⟩) hHeld ?_; rotate_left; focus (intro w hSw; (try dsimp only at hSw); go_simp; try with_reducible rfl))
                (refine Late.take (i := 9) (v := ?_) rfl (by kernel_rfl) (by kernel_rfl) (by kernel_rfl) (by kernel_rfl) (by kernel_rfl) (fun _ _ _ h => h) (Or.inl ⟨by rfl, ?_⟩) hHeld ?_; rotate_left; focus (intro w hSw; (try dsimp only at hSw); go_simp; try with_reducible rfl))
                (refine Late.take (i := 10) (v := ?_) rfl (by kernel_rfl) (by kernel_rfl) (by kernel_rfl) (by kernel_rfl) (by kernel_rfl) (fun _ _ _ h => h) (Or.inl ⟨by rfl, ?_⟩) hHeld ?_; rotate_left; focus (intro w hSw; (try dsimp only at hSw); go_simp; try with_reducible rfl))
                (refine Late.take (i := 11) (v := ?_) rfl (by kernel_rfl) (by kernel_rfl) (by kernel_rfl) (by kernel_rfl) (by kernel_rfl) (fun _ _ _ h => h) (Or.inl ⟨by rfl, ?_⟩) hHeld ?_; rotate_left; focus (intro w hSw; (try dsimp only at hSw); go_simp; try with_reducible rfl))
                (refine Late.take (i := 12) (v := ?_) rfl (by kernel_rfl) (by kernel_rfl) (by kernel_rfl) (by kernel_rfl) (by kernel_rfl) (fun _ _ _ h => h) (Or.inl ⟨by rfl, ?_⟩) hHeld ?_; rotate_left; focus (intro w hSw; (try dsimp only at hSw); go_simp; try with_reducible rfl))
                (refine Late.take (i := 13) (v := ?_) rfl (by kernel_rfl) (by kernel_rfl) (by kernel_rfl) (by kernel_rfl) (by kernel_rfl) (fun _ _ _ h => h) (Or.inl ⟨by rfl, ?_⟩) hHeld ?_; rotate_left; focus (intro w hSw; (try dsimp only at hSw); go_simp; try with_reducible rfl))
                (refine Late.take (i := 14) (v := ?_) rfl (by kernel_rfl) (by kernel_rfl) (by kernel_rfl) (by kernel_rfl) (by kernel_rfl) (fun _ _ _ h => h) (Or.inl ⟨by rfl, ?_⟩) hHeld ?_; rotate_left; focus (intro w hSw; (try dsimp only at hSw); go_simp; try with_reducible rfl))
                (refine Late.take (i := 15) (v := ?_) rfl (by kernel_rfl) (by kernel_rfl) (by kernel_rfl) (by kernel_rfl) (by kernel_rfl) (fun _ _ _ h => h) (Or.inl ⟨by rfl, ?_⟩) hHeld ?_; rotate_left; focus (intro w hSw; (try dsimp only at hSw); go_simp; try with_reducible rfl))
                (refine Late.take (i := 16) (v := ?_) rfl (by kernel_rfl) (by kernel_rfl) (by kernel_rfl) (by kernel_rfl) (by kernel_rfl) (fun _ _ _ h => h) (Or.inl ⟨by rfl, ?_⟩) hHeld ?_; rotate_left; focus (intro w hSw; (try dsimp only at hSw); go_simp; try with_reducible rfl))
                (refine Late.ready (rs := [17]) (by kernel_rfl) (by simp) ?_; refine Late.Ready.last (by decide) rfl (fun K hK => ?_); go_simp; refine hK.out _ _ ?_; clear hK K)
                refine Late.done (by kernel_rfl) ?_ _
                have hM10 := hM9 ByteArray.empty
                clear hHeld hM9 hM8 cs c3 s0 s1 mx mn
                go_wp2
                go_roundw
                case rel => exact ⟨k + 1, _, _, _, by go_num, by omega, HY, Lib.hid hM10⟩
                case measure =>
                  simp [intOf]
                  omega
              by_cases hnb : n ≤ (a.size : Int)
              · have hnn : 0 ≤ n := by omega
                have mx := max_run n 0 n (.inr ⟨by omega, rfl⟩)
                have mn := min_run n (a.size : Int) n (.inl ⟨by omega, rfl⟩)
                rw [show clip n a = (a.extract 0 n.toNat) from clip_part (by omega)] at HY
                refine Late.start (m := 17) (S := fun x => x.cell? ⟨w.heap.size + 1 + 1 + 1, 0, none⟩ = some (.string a) ∧ x.cell? ⟨g, o + k * 4 + 3, none⟩ = some (.int .i64 n)) (by kernel_rfl) ⟨cs, c3⟩ (fun hHeld => ?_)
                (refine Late.take (i := 0) (v := ?_) rfl (by kernel_rfl) (by kernel_rfl) (by kernel_rfl) (by kernel_rfl) (by kernel_rfl) (fun _ _ _ h => h) (Or.inl ⟨by rfl, ?_⟩) hHeld ?_; rotate_left; focus (intro w hSw; (try dsimp only at hSw); go_simp; try with_reducible rfl))
                (refine Late.take (i := 1) (v := ?_) rfl (by kernel_rfl) (by kernel_rfl) (by kernel_rfl) (by kernel_rfl) (by kernel_rfl) (fun _ _ _ h => h) (Or.inl ⟨by rfl, ?_⟩) hHeld ?_; rotate_left; focus (intro w hSw; (try dsimp only at hSw); go_simp; try with_reducible rfl))
                (refine Late.take (i := 2) (v := ?_) rfl (by kernel_rfl) (by kernel_rfl) (by kernel_rfl) (by kernel_rfl) (by kernel_rfl) (fun _ _ _ h => h) (Or.inl ⟨by rfl, ?_⟩) hHeld ?_; rotate_left; focus (intro w hSw; (try dsimp only at hSw); go_simp; try with_reducible rfl))
                (refine Late.take (i := 3) (v := ?_) rfl (by kernel_rfl) (by kernel_rfl) (by kernel_rfl) (by kernel_rfl) (by kernel_rfl) (fun _ _ _ h => h) (Or.inl ⟨by rfl, ?_⟩) hHeld ?_; rotate_left; focus (intro w hSw; (try dsimp only at hSw); go_simp; try with_reducible rfl))
                (refine Late.take (i := 4) (v := ?_) rfl (by kernel_rfl) (by kernel_rfl) (by kernel_rfl) (by kernel_rfl) (by kernel_rfl) (fun _ _ _ h => h) (Or.inl ⟨by rfl, ?_⟩) hHeld ?_; rotate_left; focus (intro w hSw; (try dsimp only at hSw); go_simp; try with_reducible rfl))
                (refine Late.take (i := 5) (v := ?_) rfl (by kernel_rfl) (by kernel_rfl) (by kernel_rfl) (by kernel_rfl) (by kernel_rfl) (fun _ _ _ h => h) (Or.inl ⟨by rfl, ?_⟩) hHeld ?_; rotate_left; focus (intro w hSw; (try dsimp only at hSw); go_simp; try with_reducible rfl))
                (refine Late.take (i := 6) (v := ?_) rfl (by kernel_rfl) (by kernel_rfl) (by kernel_rfl) (by kernel_rfl) (by kernel_rfl) (fun _ _ _ h => h) (Or.inl ⟨by rfl, ?_⟩) hHeld ?_; rotate_left; focus (intro w hSw; (try dsimp only at hSw); go_simp; try with_reducible rfl))
                (refine Late.take (i := 7) (v := ?_) rfl (by kernel_rfl) (by kernel_rfl) (by kernel_rfl) (by kernel_rfl) (by kernel_rfl) (fun _ _ _ h => h) (Or.inl ⟨by rfl, ?_⟩) hHeld ?_; rotate_left; focus (intro w hSw; (try dsimp only at hSw); go_simp; try with_reducible rfl))
                (refine Late.take (i := 8) (v := ?_) rfl (by kernel_rfl) (by kernel_rfl) (by kernel_rfl) (by kernel_rfl) (by kernel_rfl) (fun _ _ _ h => h) (Or.inl ⟨by rfl, ?_⟩) hHeld ?_; rotate_left; focus (intro w hSw; (try dsimp only at hSw); go_simp; try with_reducible rfl))
                (refine Late.take (i := 9) (v := ?_) rfl (by kernel_rfl) (by kernel_rfl) (by kernel_rfl) (by kernel_rfl) (by kernel_rfl) (fun _ _ _ h => h) (Or.inl ⟨by rfl, ?_⟩) hHeld ?_; rotate_left; focus (intro w hSw; (try dsimp only at hSw); go_simp; try with_reducible rfl))
                (refine Late.take (i := 10) (v := ?_) rfl (by kernel_rfl) (by kernel_rfl) (by kernel_rfl) (by kernel_rfl) (by kernel_rfl) (fun _ _ _ h => h) (Or.inl ⟨by rfl, ?_⟩) hHeld ?_; rotate_left; focus (intro w hSw; (try dsimp only at hSw); go_simp; try with_reducible rfl))
                (refine Late.take (i := 11) (v := ?_) rfl (by kernel_rfl) (by kernel_rfl) (by kernel_rfl) (by kernel_rfl) (by kernel_rfl) (fun _ _ _ h => h) (Or.inl ⟨by rfl, ?_⟩) hHeld ?_; rotate_left; focus (intro w hSw; (try dsimp only at hSw); go_simp; try with_reducible rfl))
                (refine Late.take (i := 12) (v := ?_) rfl (by kernel_rfl) (by kernel_rfl) (by kernel_rfl) (by kernel_rfl) (by kernel_rfl) (fun _ _ _ h => h) (Or.inl ⟨by rfl, ?_⟩) hHeld ?_; rotate_left; focus (intro w hSw; (try dsimp only at hSw); go_simp; try with_reducible rfl))
                (refine Late.take (i := 13) (v := ?_) rfl (by kernel_rfl) (by kernel_rfl) (by kernel_rfl) (by kernel_rfl) (by kernel_rfl) (fun _ _ _ h => h) (Or.inl ⟨by rfl, ?_⟩) hHeld ?_; rotate_left; focus (intro w hSw; (try dsimp only at hSw); go_simp; try with_reducible rfl))
                (refine Late.take (i := 14) (v := ?_) rfl (by kernel_rfl) (by kernel_rfl) (by kernel_rfl) (by kernel_rfl) (by kernel_rfl) (fun _ _ _ h => h) (Or.inl ⟨by rfl, ?_⟩) hHeld ?_; rotate_left; focus (intro w hSw; (try dsimp only at hSw); go_simp; try with_reducible rfl))
                (refine Late.take (i := 15) (v := ?_) rfl (by kernel_rfl) (by kernel_rfl) (by kernel_rfl) (by kernel_rfl) (by kernel_rfl) (fun _ _ _ h => h) (Or.inl ⟨by rfl, ?_⟩) hHeld ?_; rotate_left; focus (intro w hSw; (try dsimp only at hSw); go_simp; try with_reducible rfl))
                (refine Late.take (i := 16) (v := ?_) rfl (by kernel_rfl) (by kernel_rfl) (by kernel_rfl) (by kernel_rfl) (by kernel_rfl) (fun _ _ _ h => h) (Or.inl ⟨by rfl, ?_⟩) hHeld ?_; rotate_left; focus (intro w hSw; (try dsimp only at hSw); go_simp; try with_reducible rfl))
                (refine Late.ready (rs := [17]) (by kernel_rfl) (by simp) ?_; refine Late.Ready.last (by decide) rfl (fun K hK => ?_); go_simp; refine hK.out _ _ ?_; clear hK K)
                refine Late.done (by kernel_rfl) ?_ _
                have hM10 := hM9 (a.extract 0 n.toNat)
                clear hHeld hM9 hM8 cs c3 s0 s1 mx mn
                go_wp2
                go_roundw
                case rel => exact ⟨k + 1, _, _, _, by go_num, by omega, HY, Lib.hid hM10⟩
                case measure =>
                  simp [intOf]
                  omega
              have hnc : (a.size : Int) < n := by omega
              · have hnn : n = n := by omega
                have mx := max_run n 0 n (.inr ⟨by omega, rfl⟩)
                have mn := min_run n (a.size : Int) (a.size : Int) (.inr ⟨by omega, rfl⟩)
                rw [show clip n a = a from clip_whole (by omega)] at HY
                refine Late.start (m := 17) (S := fun x => x.cell? ⟨w.heap.size + 1 + 1 + 1, 0, none⟩ = some (.string a) ∧ x.cell? ⟨g, o + k * 4 + 3, none⟩ = some (.int .i64 n)) (by kernel_rfl) ⟨cs, c3⟩ (fun hHeld => ?_)
                (refine Late.take (i := 0) (v := ?_) rfl (by kernel_rfl) (by kernel_rfl) (by kernel_rfl) (by kernel_rfl) (by kernel_rfl) (fun _ _ _ h => h) (Or.inl ⟨by rfl, ?_⟩) hHeld ?_; rotate_left; focus (intro w hSw; (try dsimp only at hSw); go_simp; try with_reducible rfl))
                (refine Late.take (i := 1) (v := ?_) rfl (by kernel_rfl) (by kernel_rfl) (by kernel_rfl) (by kernel_rfl) (by kernel_rfl) (fun _ _ _ h => h) (Or.inl ⟨by rfl, ?_⟩) hHeld ?_; rotate_left; focus (intro w hSw; (try dsimp only at hSw); go_simp; try with_reducible rfl))
                (refine Late.take (i := 2) (v := ?_) rfl (by kernel_rfl) (by kernel_rfl) (by kernel_rfl) (by kernel_rfl) (by kernel_rfl) (fun _ _ _ h => h) (Or.inl ⟨by rfl, ?_⟩) hHeld ?_; rotate_left; focus (intro w hSw; (try dsimp only at hSw); go_simp; try with_reducible rfl))
                (refine Late.take (i := 3) (v := ?_) rfl (by kernel_rfl) (by kernel_rfl) (by kernel_rfl) (by kernel_rfl) (by kernel_rfl) (fun _ _ _ h => h) (Or.inl ⟨by rfl, ?_⟩) hHeld ?_; rotate_left; focus (intro w hSw; (try dsimp only at hSw); go_simp; try with_reducible rfl))
                (refine Late.take (i := 4) (v := ?_) rfl (by kernel_rfl) (by kernel_rfl) (by kernel_rfl) (by kernel_rfl) (by kernel_rfl) (fun _ _ _ h => h) (Or.inl ⟨by rfl, ?_⟩) hHeld ?_; rotate_left; focus (intro w hSw; (try dsimp only at hSw); go_simp; try with_reducible rfl))
                (refine Late.take (i := 5) (v := ?_) rfl (by kernel_rfl) (by kernel_rfl) (by kernel_rfl) (by kernel_rfl) (by kernel_rfl) (fun _ _ _ h => h) (Or.inl ⟨by rfl, ?_⟩) hHeld ?_; rotate_left; focus (intro w hSw; (try dsimp only at hSw); go_simp; try with_reducible rfl))
                (refine Late.take (i := 6) (v := ?_) rfl (by kernel_rfl) (by kernel_rfl) (by kernel_rfl) (by kernel_rfl) (by kernel_rfl) (fun _ _ _ h => h) (Or.inl ⟨by rfl, ?_⟩) hHeld ?_; rotate_left; focus (intro w hSw; (try dsimp only at hSw); go_simp; try with_reducible rfl))
                (refine Late.take (i := 7) (v := ?_) rfl (by kernel_rfl) (by kernel_rfl) (by kernel_rfl) (by kernel_rfl) (by kernel_rfl) (fun _ _ _ h => h) (Or.inl ⟨by rfl, ?_⟩) hHeld ?_; rotate_left; focus (intro w hSw; (try dsimp only at hSw); go_simp; try with_reducible rfl))
                (refine Late.take (i := 8) (v := ?_) rfl (by kernel_rfl) (by kernel_rfl) (by kernel_rfl) (by kernel_rfl) (by kernel_rfl) (fun _ _ _ h => h) (Or.inl ⟨by rfl, ?_⟩) hHeld ?_; rotate_left; focus (intro w hSw; (try dsimp only at hSw); go_simp; try with_reducible rfl))
                (refine Late.take (i := 9) (v := ?_) rfl (by kernel_rfl) (by kernel_rfl) (by kernel_rfl) (by kernel_rfl) (by kernel_rfl) (fun _ _ _ h => h) (Or.inl ⟨by rfl, ?_⟩) hHeld ?_; rotate_left; focus (intro w hSw; (try dsimp only at hSw); go_simp; try with_reducible rfl))
                (refine Late.take (i := 10) (v := ?_) rfl (by kernel_rfl) (by kernel_rfl) (by kernel_rfl) (by kernel_rfl) (by kernel_rfl) (fun _ _ _ h => h) (Or.inl ⟨by rfl, ?_⟩) hHeld ?_; rotate_left; focus (intro w hSw; (try dsimp only at hSw); go_simp; try with_reducible rfl))
                (refine Late.take (i := 11) (v := ?_) rfl (by kernel_rfl) (by kernel_rfl) (by kernel_rfl) (by kernel_rfl) (by kernel_rfl) (fun _ _ _ h => h) (Or.inl ⟨by rfl, ?_⟩) hHeld ?_; rotate_left; focus (intro w hSw; (try dsimp only at hSw); go_simp; try with_reducible rfl))
                (refine Late.take (i := 12) (v := ?_) rfl (by kernel_rfl) (by kernel_rfl) (by kernel_rfl) (by kernel_rfl) (by kernel_rfl) (fun _ _ _ h => h) (Or.inl ⟨by rfl, ?_⟩) hHeld ?_; rotate_left; focus (intro w hSw; (try dsimp only at hSw); go_simp; try with_reducible rfl))
                (refine Late.take (i := 13) (v := ?_) rfl (by kernel_rfl) (by kernel_rfl) (by kernel_rfl) (by kernel_rfl) (by kernel_rfl) (fun _ _ _ h => h) (Or.inl ⟨by rfl, ?_⟩) hHeld ?_; rotate_left; focus (intro w hSw; (try dsimp only at hSw); go_simp; try with_reducible rfl))
                (refine Late.take (i := 14) (v := ?_) rfl (by kernel_rfl) (by kernel_rfl) (by kernel_rfl) (by kernel_rfl) (by kernel_rfl) (fun _ _ _ h => h) (Or.inl ⟨by rfl, ?_⟩) hHeld ?_; rotate_left; focus (intro w hSw; (try dsimp only at hSw); go_simp; try with_reducible rfl))
                (refine Late.take (i := 15) (v := ?_) rfl (by kernel_rfl) (by kernel_rfl) (by kernel_rfl) (by kernel_rfl) (by kernel_rfl) (fun _ _ _ h => h) (Or.inl ⟨by rfl, ?_⟩) hHeld ?_; rotate_left; focus (intro w hSw; (try dsimp only at hSw); go_simp; try with_reducible rfl))
                (refine Late.take (i := 16) (v := ?_) rfl (by kernel_rfl) (by kernel_rfl) (by kernel_rfl) (by kernel_rfl) (by kernel_rfl) (fun _ _ _ h => h) (Or.inl ⟨by rfl, ?_⟩) hHeld ?_; rotate_left; focus (intro w hSw; (try dsimp only at hSw); go_simp; try with_reducible rfl))
                (refine Late.ready (rs := [17]) (by kernel_rfl) (by simp) ?_; refine Late.Ready.last (by decide) rfl (fun K hK => ?_); go_simp; refine hK.out _ _ ?_; clear hK K)
                refine Late.done (by kernel_rfl) ?_ _
                have hM10 := hM9 a
                clear hHeld hM9 hM8 cs c3 s0 s1 mx mn
                go_wp2
                go_roundw
                case rel => exact ⟨k + 1, _, _, _, by go_num, by omega, HY, Lib.hid hM10⟩
                case measure =>
                  simp [intOf]
                  omega
            · have HY := Lib.hid (HY1.out (by first | rfl | trivial) (by first | rfl | trivial))
              go_upto_region 17 with fail
              have hMd := hM8.drew
              have c3 : W8.drew.cell? ⟨g, o + k * 4 + 3, none⟩ = some (.int .i64 n) := m8
              have cs : W8.drew.cell? ⟨w.heap.size + 1 + 1 + 1, 1, none⟩ = some (.string b) := (cells2 hMd.s).2
              have hfz := thaw hM8.s
              obtain ⟨s0, s1⟩ := cells2 hM8.s
              have hsz : ((b.size : Nat) : Int) ≤ 100000 := by have := HI.out.small; omega
              have hM9 := fun x => hMd.safe1 x
              clear HY0 HY1 hMd
              by_cases hna : n < 0
              · have hnn : n = n := by omega
                have mx := max_run n 0 0 (.inl ⟨by omega, rfl⟩)
                have mn := min_run 0 (b.size : Int) 0 (.inl ⟨by omega, rfl⟩)
                rw [show clip n b = ByteArray.empty from clip_none (by omega) _] at HY
                refine Late.start (m := 17) (S := fun x => x.cell? ⟨w.heap.size + 1 + 1 + 1, 1, none⟩ = some (.string b) ∧ x.cell? ⟨g, o + k * 4 + 3, none⟩ = some (.int .i64 n)) (by kernel_rfl) ⟨cs, c3⟩ (fun hHeld => ?_)
                (refine Late.take (i := 0) (v := ?_) rfl (by kernel_rfl) (by kernel_rfl) (by kernel_rfl) (by kernel_rfl) (by kernel_rfl) (fun _ _ _ h => h) (Or.inl ⟨by rfl, ?_⟩) hHeld ?_; rotate_left; focus (intro w hSw; (try dsimp only at hSw); go_simp; try with_reducible rfl))
                (refine Late.take (i := 1) (v := ?_) rfl (by kernel_rfl) (by kernel_rfl) (by kernel_rfl) (by kernel_rfl) (by kernel_rfl) (fun _ _ _ h => h) (Or.inl ⟨by rfl, ?_⟩) hHeld ?_; rotate_left; focus (intro w hSw; (try dsimp only at hSw); go_simp; try with_reducible rfl))
                (refine Late.take (i := 2) (v := ?_) rfl (by kernel_rfl) (by kernel_rfl) (by kernel_rfl) (by kernel_rfl) (by kernel_rfl) (fun _ _ _ h => h) (Or.inl ⟨by rfl, ?_⟩) hHeld ?_; rotate_left; focus (intro w hSw; (try dsimp only at hSw); go_simp; try with_reducible rfl))
                (refine Late.take (i := 3) (v := ?_) rfl (by kernel_rfl) (by kernel_rfl) (by kernel_rfl) (by kernel_rfl) (by kernel_rfl) (fun _ _ _ h => h) (Or.inl ⟨by rfl, ?_⟩) hHeld ?_; rotate_left; focus (intro w hSw; (try dsimp only at hSw); go_simp; try with_reducible rfl))
                (refine Late.take (i := 4) (v := ?_) rfl (by kernel_rfl) (by kernel_rfl) (by kernel_rfl) (by kernel_rfl) (by kernel_rfl) (fun _ _ _ h => h) (Or.inl ⟨by rfl, ?_⟩) hHeld ?_; rotate_left; focus (intro w hSw; (try dsimp only at hSw); go_simp; try with_reducible rfl))
                (refine Late.take (i := 5) (v := ?_) rfl (by kernel_rfl) (by kernel_rfl) (by kernel_rfl) (by kernel_rfl) (by kernel_rfl) (fun _ _ _ h => h) (Or.inl ⟨by rfl, ?_⟩) hHeld ?_; rotate_left; focus (intro w hSw; (try dsimp only at hSw); go_simp; try with_reducible rfl))
                (refine Late.take (i := 6) (v := ?_) rfl (by kernel_rfl) (by kernel_rfl) (by kernel_rfl) (by kernel_rfl) (by kernel_rfl) (fun _ _ _ h => h) (Or.inl ⟨by rfl, ?_⟩) hHeld ?_; rotate_left; focus (intro w hSw; (try dsimp only at hSw); go_simp; try with_reducible rfl))
                (refine Late.take (i := 7) (v := ?_) rfl (by kernel_rfl) (by kernel_rfl) (by kernel_rfl) (by kernel_rfl) (by kernel_rfl) (fun _ _ _ h => h) (Or.inl ⟨by rfl, ?_⟩) hHeld ?_; rotate_left; focus (intro w hSw; (try dsimp only at hSw); go_simp; try with_reducible rfl))
                (refine Late.take (i := 8) (v := ?_) rfl (by kernel_rfl) (by kernel_rfl) (by kernel_rfl) (by kernel_rfl) (by kernel_rfl) (fun _ _ _ h => h) (Or.inl ⟨by rfl, ?_⟩) hHeld ?_; rotate_left; focus (intro w hSw; (try dsimp only at hSw); go_simp; try with_reducible rfl))
                (refine Late.take (i := 9) (v := ?_) rfl (by kernel_rfl) (by kernel_rfl) (by kernel_rfl) (by kernel_rfl) (by kernel_rfl) (fun _ _ _ h => h) (Or.inl ⟨by rfl, ?_⟩) hHeld ?_; rotate_left; focus (intro w hSw; (try dsimp only at hSw); go_simp; try with_reducible rfl))
                (refine Late.take (i := 10) (v := ?_) rfl (by kernel_rfl) (by kernel_rfl) (by kernel_rfl) (by kernel_rfl) (by kernel_rfl) (fun _ _ _ h => h) (Or.inl ⟨by rfl, ?_⟩) hHeld ?_; rotate_left; focus (intro w hSw; (try dsimp only at hSw); go_simp; try with_reducible rfl))
                (refine Late.take (i := 11) (v := ?_) rfl (by kernel_rfl) (by kernel_rfl) (by kernel_rfl) (by kernel_rfl) (by kernel_rfl) (fun _ _ _ h => h) (Or.inl ⟨by rfl, ?_⟩) hHeld ?_; rotate_left; focus (intro w hSw; (try dsimp only at hSw); go_simp; try with_reducible rfl))
                (refine Late.take (i := 12) (v := ?_) rfl (by kernel_rfl) (by kernel_rfl) (by kernel_rfl) (by kernel_rfl) (by kernel_rfl) (fun _ _ _ h => h) (Or.inl ⟨by rfl, ?_⟩) hHeld ?_; rotate_left; focus (intro w hSw; (try dsimp only at hSw); go_simp; try with_reducible rfl))
                (refine Late.take (i := 13) (v := ?_) rfl (by kernel_rfl) (by kernel_rfl) (by kernel_rfl) (by kernel_rfl) (by kernel_rfl) (fun _ _ _ h => h) (Or.inl ⟨by rfl, ?_⟩) hHeld ?_; rotate_left; focus (intro w hSw; (try dsimp only at hSw); go_simp; try with_reducible rfl))
                (refine Late.take (i := 14) (v := ?_) rfl (by kernel_rfl) (by kernel_rfl) (by kernel_rfl) (by kernel_rfl) (by kernel_rfl) (fun _ _ _ h => h) (Or.inl ⟨by rfl, ?_⟩) hHeld ?_; rotate_left; focus (intro w hSw; (try dsimp only at hSw); go_simp; try with_reducible rfl))
                (refine Late.take (i := 15) (v := ?_) rfl (by kernel_rfl) (by kernel_rfl) (by kernel_rfl) (by kernel_rfl) (by kernel_rfl) (fun _ _ _ h => h) (Or.inl ⟨by rfl, ?_⟩) hHeld ?_; rotate_left; focus (intro w hSw; (try dsimp only at hSw); go_simp; try with_reducible rfl))
                (refine Late.take (i := 16) (v := ?_) rfl (by kernel_rfl) (by kernel_rfl) (by kernel_rfl) (by kernel_rfl) (by kernel_rfl) (fun _ _ _ h => h) (Or.inl ⟨by rfl, ?_⟩) hHeld ?_; rotate_left; focus (intro w hSw; (try dsimp only at hSw); go_simp; try with_reducible rfl))
                (refine Late.ready (rs := [17]) (by kernel_rfl) (by simp) ?_; refine Late.Ready.last (by decide) rfl (fun K hK => ?_); go_simp; refine hK.out _ _ ?_; clear hK K)
                refine Late.done (by kernel_rfl) ?_ _
                have hM10 := hM9 ByteArray.empty
                clear hHeld hM9 hM8 cs c3 s0 s1 mx mn
                go_wp2
                go_roundw
                case rel => exact ⟨k + 1, _, _, _, by go_num, by omega, HY, Lib.hid hM10⟩
                case measure =>
                  simp [intOf]
                  omega
              by_cases hnb : n ≤ (b.size : Int)
              · have hnn : 0 ≤ n := by omega
                have mx := max_run n 0 n (.inr ⟨by omega, rfl⟩)
                have mn := min_run n (b.size : Int) n (.inl ⟨by omega, rfl⟩)
                rw [show clip n b = (b.extract 0 n.toNat) from clip_part (by omega)] at HY
                refine Late.start (m := 17) (S := fun x => x.cell? ⟨w.heap.size + 1 + 1 + 1, 1, none⟩ = some (.string b) ∧ x.cell? ⟨g, o + k * 4 + 3, none⟩ = some (.int .i64 n)) (by kernel_rfl) ⟨cs, c3⟩ (fun hHeld => ?_)
                (refine Late.take (i := 0) (v := ?_) rfl (by kernel_rfl) (by kernel_rfl) (by kernel_rfl) (by kernel_rfl) (by kernel_rfl) (fun _ _ _ h => h) (Or.inl ⟨by rfl, ?_⟩) hHeld ?_; rotate_left; focus (intro w hSw; (try dsimp only at hSw); go_simp; try with_reducible rfl))
                (refine Late.take (i := 1) (v := ?_) rfl (by kernel_rfl) (by kernel_rfl) (by kernel_rfl) (by kernel_rfl) (by kernel_rfl) (fun _ _ _ h => h) (Or.inl ⟨by rfl, ?_⟩) hHeld ?_; rotate_left; focus (intro w hSw; (try dsimp only at hSw); go_simp; try with_reducible rfl))
                (refine Late.take (i := 2) (v := ?_) rfl (by kernel_rfl) (by kernel_rfl) (by kernel_rfl) (by kernel_rfl) (by kernel_rfl) (fun _ _ _ h => h) (Or.inl ⟨by rfl, ?_⟩) hHeld ?_; rotate_left; focus (intro w hSw; (try dsimp only at hSw); go_simp; try with_reducible rfl))
                (refine Late.take (i := 3) (v := ?_) rfl (by kernel_rfl) (by kernel_rfl) (by kernel_rfl) (by kernel_rfl) (by kernel_rfl) (fun _ _ _ h => h) (Or.inl ⟨by rfl, ?_⟩) hHeld ?_; rotate_left; focus (intro w hSw; (try dsimp only at hSw); go_simp; try with_reducible rfl))
                (refine Late.take (i := 4) (v := ?_) rfl (by kernel_rfl) (by kernel_rfl) (by kernel_rfl) (by kernel_rfl) (by kernel_rfl) (fun _ _ _ h => h) (Or.inl ⟨by rfl, ?_⟩) hHeld ?_; rotate_left; focus (intro w hSw; (try dsimp only at hSw); go_simp; try with_reducible rfl))
                (refine Late.take (i := 5) (v := ?_) rfl (by kernel_rfl) (by kernel_rfl) (by kernel_rfl) (by kernel_rfl) (by kernel_rfl) (fun _ _ _ h => h) (Or.inl ⟨by rfl, ?_⟩) hHeld ?_; rotate_left; focus (intro w hSw; (try dsimp only at hSw); go_simp; try with_reducible rfl))
                (refine Late.take (i := 6) (v := ?_) rfl (by kernel_rfl) (by kernel_rfl) (by kernel_rfl) (by kernel_rfl) (by kernel_rfl) (fun _ _ _ h => h) (Or.inl ⟨by rfl, ?_⟩) hHeld ?_; rotate_left; focus (intro w hSw; (try dsimp only at hSw); go_simp; try with_reducible rfl))
                (refine Late.take (i := 7) (v := ?_) rfl (by kernel_rfl) (by kernel_rfl) (by kernel_rfl) (by kernel_rfl) (by kernel_rfl) (fun _ _ _ h => h) (Or.inl ⟨by rfl, ?_⟩) hHeld ?_; rotate_left; focus (intro w hSw; (try dsimp only at hSw); go_simp; try with_reducible rfl))
                (refine Late.take (i := 8) (v := ?_) rfl (by kernel_rfl) (by kernel_rfl) (by kernel_rfl) (by kernel_rfl) (by kernel_rfl) (fun _ _ _ h => h) (Or.inl ⟨by rfl, ?_⟩) hHeld ?_; rotate_left; focus (intro w hSw; (try dsimp only at hSw); go_simp; try with_reducible rfl))
                (refine Late.take (i := 9) (v := ?_) rfl (by kernel_rfl) (by kernel_rfl) (by kernel_rfl) (by kernel_rfl) (by kernel_rfl) (fun _ _ _ h => h) (Or.inl ⟨by rfl, ?_⟩) hHeld ?_; rotate_left; focus (intro w hSw; (try dsimp only at hSw); go_simp; try with_reducible rfl))
                (refine Late.take (i := 10) (v := ?_) rfl (by kernel_rfl) (by kernel_rfl) (by kernel_rfl) (by kernel_rfl) (by kernel_rfl) (fun _ _ _ h => h) (Or.inl ⟨by rfl, ?_⟩) hHeld ?_; rotate_left; focus (intro w hSw; (try dsimp only at hSw); go_simp; try with_reducible rfl))
                (refine Late.take (i := 11) (v := ?_) rfl (by kernel_rfl) (by kernel_rfl) (by kernel_rfl) (by kernel_rfl) (by kernel_rfl) (fun _ _ _ h => h) (Or.inl ⟨by rfl, ?_⟩) hHeld ?_; rotate_left; focus (intro w hSw; (try dsimp only at hSw); go_simp; try with_reducible rfl))
                (refine Late.take (i := 12) (v := ?_) rfl (by kernel_rfl) (by kernel_rfl) (by kernel_rfl) (by kernel_rfl) (by kernel_rfl) (fun _ _ _ h => h) (Or.inl ⟨by rfl, ?_⟩) hHeld ?_; rotate_left; focus (intro w hSw; (try dsimp only at hSw); go_simp; try with_reducible rfl))
                (refine Late.take (i := 13) (v := ?_) rfl (by kernel_rfl) (by kernel_rfl) (by kernel_rfl) (by kernel_rfl) (by kernel_rfl) (fun _ _ _ h => h) (Or.inl ⟨by rfl, ?_⟩) hHeld ?_; rotate_left; focus (intro w hSw; (try dsimp only at hSw); go_simp; try with_reducible rfl))
                (refine Late.take (i := 14) (v := ?_) rfl (by kernel_rfl) (by kernel_rfl) (by kernel_rfl) (by kernel_rfl) (by kernel_rfl) (fun _ _ _ h => h) (Or.inl ⟨by rfl, ?_⟩) hHeld ?_; rotate_left; focus (intro w hSw; (try dsimp only at hSw); go_simp; try with_reducible rfl))
                (refine Late.take (i := 15) (v := ?_) rfl (by kernel_rfl) (by kernel_rfl) (by kernel_rfl) (by kernel_rfl) (by kernel_rfl) (fun _ _ _ h => h) (Or.inl ⟨by rfl, ?_⟩) hHeld ?_; rotate_left; focus (intro w hSw; (try dsimp only at hSw); go_simp; try with_reducible rfl))
                (refine Late.take (i := 16) (v := ?_) rfl (by kernel_rfl) (by kernel_rfl) (by kernel_rfl) (by kernel_rfl) (by kernel_rfl) (fun _ _ _ h => h) (Or.inl ⟨by rfl, ?_⟩) hHeld ?_; rotate_left; focus (intro w hSw; (try dsimp only at hSw); go_simp; try with_reducible rfl))
                (refine Late.ready (rs := [17]) (by kernel_rfl) (by simp) ?_; refine Late.Ready.last (by decide) rfl (fun K hK => ?_); go_simp; refine hK.out _ _ ?_; clear hK K)
                refine Late.done (by kernel_rfl) ?_ _
                have hM10 := hM9 (b.extract 0 n.toNat)
                clear hHeld hM9 hM8 cs c3 s0 s1 mx mn
                go_wp2
                go_roundw
                case rel => exact ⟨k + 1, _, _, _, by go_num, by omega, HY, Lib.hid hM10⟩
                case measure =>
                  simp [intOf]
                  omega
              have hnc : (b.size : Int) < n := by omega
              · have hnn : n = n := by omega
                have mx := max_run n 0 n (.inr ⟨by omega, rfl⟩)
                have mn := min_run n (b.size : Int) (b.size : Int) (.inr ⟨by omega, rfl⟩)
                rw [show clip n b = b from clip_whole (by omega)] at HY
                refine Late.start (m := 17) (S := fun x => x.cell? ⟨w.heap.size + 1 + 1 + 1, 1, none⟩ = some (.string b) ∧ x.cell? ⟨g, o + k * 4 + 3, none⟩ = some (.int .i64 n)) (by kernel_rfl) ⟨cs, c3⟩ (fun hHeld => ?_)
                (refine Late.take (i := 0) (v := ?_) rfl (by kernel_rfl) (by kernel_rfl) (by kernel_rfl) (by kernel_rfl) (by kernel_rfl) (fun _ _ _ h => h) (Or.inl ⟨by rfl, ?_⟩) hHeld ?_; rotate_left; focus (intro w hSw; (try dsimp only at hSw); go_simp; try with_reducible rfl))
                (refine Late.take (i := 1) (v := ?_) rfl (by kernel_rfl) (by kernel_rfl) (by kernel_rfl) (by kernel_rfl) (by kernel_rfl) (fun _ _ _ h => h) (Or.inl ⟨by rfl, ?_⟩) hHeld ?_; rotate_left; focus (intro w hSw; (try dsimp only at hSw); go_simp; try with_reducible rfl))
                (refine Late.take (i := 2) (v := ?_) rfl (by kernel_rfl) (by kernel_rfl) (by kernel_rfl) (by kernel_rfl) (by kernel_rfl) (fun _ _ _ h => h) (Or.inl ⟨by rfl, ?_⟩) hHeld ?_; rotate_left; focus (intro w hSw; (try dsimp only at hSw); go_simp; try with_reducible rfl))
                (refine Late.take (i := 3) (v := ?_) rfl (by kernel_rfl) (by kernel_rfl) (by kernel_rfl) (by kernel_rfl) (by kernel_rfl) (fun _ _ _ h => h) (Or.inl ⟨by rfl, ?_⟩) hHeld ?_; rotate_left; focus (intro w hSw; (try dsimp only at hSw); go_simp; try with_reducible rfl))
                (refine Late.take (i := 4) (v := ?_) rfl (by kernel_rfl) (by kernel_rfl) (by kernel_rfl) (by kernel_rfl) (by kernel_rfl) (fun _ _ _ h => h) (Or.inl ⟨by rfl, ?_⟩) hHeld ?_; rotate_left; focus (intro w hSw; (try dsimp only at hSw); go_simp; try with_reducible rfl))
                (refine Late.take (i := 5) (v := ?_) rfl (by kernel_rfl) (by kernel_rfl) (by kernel_rfl) (by kernel_rfl) (by kernel_rfl) (fun _ _ _ h => h) (Or.inl ⟨by rfl, ?_⟩) hHeld ?_; rotate_left; focus (intro w hSw; (try dsimp only at hSw); go_simp; try with_reducible rfl))
                (refine Late.take (i := 6) (v := ?_) rfl (by kernel_rfl) (by kernel_rfl) (by kernel_rfl) (by kernel_rfl) (by kernel_rfl) (fun _ _ _ h => h) (Or.inl ⟨by rfl, ?_⟩) hHeld ?_; rotate_left; focus (intro w hSw; (try dsimp only at hSw); go_simp; try with_reducible rfl))
                (refine Late.take (i := 7) (v := ?_) rfl (by kernel_rfl) (by kernel_rfl) (by kernel_rfl) (by kernel_rfl) (by kernel_rfl) (fun _ _ _ h => h) (Or.inl ⟨by rfl, ?_⟩) hHeld ?_; rotate_left; focus (intro w hSw; (try dsimp only at hSw); go_simp; try with_reducible rfl))
                (refine Late.take (i := 8) (v := ?_) rfl (by kernel_rfl) (by kernel_rfl) (by kernel_rfl) (by kernel_rfl) (by kernel_rfl) (fun _ _ _ h => h) (Or.inl ⟨by rfl, ?_⟩) hHeld ?_; rotate_left; focus (intro w hSw; (try dsimp only at hSw); go_simp; try with_reducible rfl))
                (refine Late.take (i := 9) (v := ?_) rfl (by kernel_rfl) (by kernel_rfl) (by kernel_rfl) (by kernel_rfl) (by kernel_rfl) (fun _ _ _ h => h) (Or.inl ⟨by rfl, ?_⟩) hHeld ?_; rotate_left; focus (intro w hSw; (try dsimp only at hSw); go_simp; try with_reducible rfl))
                (refine Late.take (i := 10) (v := ?_) rfl (by kernel_rfl) (by kernel_rfl) (by kernel_rfl) (by kernel_rfl) (by kernel_rfl) (fun _ _ _ h => h) (Or.inl ⟨by rfl, ?_⟩) hHeld ?_; rotate_left; focus (intro w hSw; (try dsimp only at hSw); go_simp; try with_reducible rfl))
                (refine Late.take (i := 11) (v := ?_) rfl (by kernel_rfl) (by kernel_rfl) (by kernel_rfl) (by kernel_rfl) (by kernel_rfl) (fun _ _ _ h => h) (Or.inl ⟨by rfl, ?_⟩) hHeld ?_; rotate_left; focus (intro w hSw; (try dsimp only at hSw); go_simp; try with_reducible rfl))
                (refine Late.take (i := 12) (v := ?_) rfl (by kernel_rfl) (by kernel_rfl) (by kernel_rfl) (by kernel_rfl) (by kernel_rfl) (fun _ _ _ h => h) (Or.inl ⟨by rfl, ?_⟩) hHeld ?_; rotate_left; focus (intro w hSw; (try dsimp only at hSw); go_simp; try with_reducible rfl))
                (refine Late.take (i := 13) (v := ?_) rfl (by kernel_rfl) (by kernel_rfl) (by kernel_rfl) (by kernel_rfl) (by kernel_rfl) (fun _ _ _ h => h) (Or.inl ⟨by rfl, ?_⟩) hHeld ?_; rotate_left; focus (intro w hSw; (try dsimp only at hSw); go_simp; try with_reducible rfl))
                (refine Late.take (i := 14) (v := ?_) rfl (by kernel_rfl) (by kernel_rfl) (by kernel_rfl) (by kernel_rfl) (by kernel_rfl) (fun _ _ _ h => h) (Or.inl ⟨by rfl, ?_⟩) hHeld ?_; rotate_left; focus (intro w hSw; (try dsimp only at hSw); go_simp; try with_reducible rfl))
                (refine Late.take (i := 15) (v := ?_) rfl (by kernel_rfl) (by kernel_rfl) (by kernel_rfl) (by kernel_rfl) (by kernel_rfl) (fun _ _ _ h => h) (Or.inl ⟨by rfl, ?_⟩) hHeld ?_; rotate_left; focus (intro w hSw; (try dsimp only at hSw); go_simp; try with_reducible rfl))
                (refine Late.take (i := 16) (v := ?_) rfl (by kernel_rfl) (by kernel_rfl) (by kernel_rfl) (by kernel_rfl) (by kernel_rfl) (fun _ _ _ h => h) (Or.inl ⟨by rfl, ?_⟩) hHeld ?_; rotate_left; focus (intro w hSw; (try dsimp only at hSw); go_simp; try with_reducible rfl))
                (refine Late.ready (rs := [17]) (by kernel_rfl) (by simp) ?_; refine Late.Ready.last (by decide) rfl (fun K hK => ?_); go_simp; refine hK.out _ _ ?_; clear hK K)
                refine Late.done (by kernel_rfl) ?_ _
                have hM10 := hM9 b
                clear hHeld hM9 hM8 cs c3 s0 s1 mx mn
                go_wp2
                go_roundw
                case rel => exact ⟨k + 1, _, _, _, by go_num, by omega, HY, Lib.hid hM10⟩
                case measure =>
                  simp [intOf]
                  omega
        · go_upto_region 19 with fail
          have HW := Lib.hid (fun w' => arm_any d n fi w')
          have HY := Lib.hid (HI.out.arm (f := n) (k := fi) hn0 hn1 (by omega) (by omega))
          obtain ⟨y, hy⟩ : ∃ y, arm d n fi = y := ⟨_, rfl⟩
          rw [hy] at HW HY
          clear hy
          unfold valD at HW
          have hwr : IntKind.i64.wrap fi = fi := by rw [IntKind.wrap_i64]; omega
          rw [← hwr] at HW
          clear hwr
          have hMd := HM.out.drew
          have m3d : wr.drew.cell? ⟨g, o + k * 4 + 3, none⟩ = some (.int .i64 n) := m3
          have m1d : wr.drew.cell? ⟨g, o + k * 4 + 1, none⟩ = some (.int .u8 fi) := m1
          refine Late.start (m := 13) (S := fun x => x.heap[w.heap.size]? = some (box d) ∧ x.cell? ⟨g, o + k * 4 + 3, none⟩ = some (.int .i64 n) ∧ x.cell? ⟨g, o + k * 4 + 1, none⟩ = some (.int .u8 fi)) (by kernel_rfl) ⟨hMd.d, m3d, m1d⟩ (fun hHeld => ?_)
          (refine Late.take (i := 0) (v := .agg (cellsD d)) rfl (by kernel_rfl) (by kernel_rfl) (by kernel_rfl) (by kernel_rfl) (by kernel_rfl) (fun _ _ _ h => h) (Or.inl ⟨by rfl, ?_⟩) hHeld ?_; focus (intro w hSw; (try dsimp only at hSw); exact Whole.held_load _ 26 rfl _ _ _ rfl hSw.1 Try.underlying26 rfl szD))
          (refine Late.take (i := 1) (v := ?_) rfl (by kernel_rfl) (by kernel_rfl) (by kernel_rfl) (by kernel_rfl) (by kernel_rfl) (fun _ _ _ h => h) (Or.inl ⟨by rfl, ?_⟩) hHeld ?_; rotate_left; focus (intro w hSw; (try dsimp only at hSw); go_simp; try with_reducible rfl))
          (refine Late.take (i := 2) (v := ?_) rfl (by kernel_rfl) (by kernel_rfl) (by kernel_rfl) (by kernel_rfl) (by kernel_rfl) (fun _ _ _ h => h) (Or.inl ⟨by rfl, ?_⟩) hHeld ?_; rotate_left; focus (intro w hSw; (try dsimp only at hSw); go_simp; try with_reducible rfl))
          (refine Late.take (i := 3) (v := ?_) rfl (by kernel_rfl) (by kernel_rfl) (by kernel_rfl) (by kernel_rfl) (by kernel_rfl) (fun _ _ _ h => h) (Or.inl ⟨by rfl, ?_⟩) hHeld ?_; rotate_left; focus (intro w hSw; (try dsimp only at hSw); go_simp; try with_reducible rfl))
          (refine Late.take (i := 4) (v := ?_) rfl (by kernel_rfl) (by kernel_rfl) (by kernel_rfl) (by kernel_rfl) (by kernel_rfl) (fun _ _ _ h => h) (Or.inl ⟨by rfl, ?_⟩) hHeld ?_; rotate_left; focus (intro w hSw; (try dsimp only at hSw); go_simp; try with_reducible rfl))
          (refine Late.take (i := 5) (v := ?_) rfl (by kernel_rfl) (by kernel_rfl) (by kernel_rfl) (by kernel_rfl) (by kernel_rfl) (fun _ _ _ h => h) (Or.inl ⟨by rfl, ?_⟩) hHeld ?_; rotate_left; focus (intro w hSw; (try dsimp only at hSw); go_simp; try with_reducible rfl))
          (refine Late.take (i := 6) (v := ?_) rfl (by kernel_rfl) (by kernel_rfl) (by kernel_rfl) (by kernel_rfl) (by kernel_rfl) (fun _ _ _ h => h) (Or.inl ⟨by rfl, ?_⟩) hHeld ?_; rotate_left; focus (intro w hSw; (try dsimp only at hSw); go_simp; try with_reducible rfl))
          (refine Late.take (i := 7) (v := ?_) rfl (by kernel_rfl) (by kernel_rfl) (by kernel_rfl) (by kernel_rfl) (by kernel_rfl) (fun _ _ _ h => h) (Or.inl ⟨by rfl, ?_⟩) hHeld ?_; rotate_left; focus (intro w hSw; (try dsimp only at hSw); go_simp; try with_reducible rfl))
          (refine Late.take (i := 8) (v := ?_) rfl (by kernel_rfl) (by kernel_rfl) (by kernel_rfl) (by kernel_rfl) (by kernel_rfl) (fun _ _ _ h => h) (Or.inl ⟨by rfl, ?_⟩) hHeld ?_; rotate_left; focus (intro w hSw; (try dsimp only at hSw); go_simp; try with_reducible rfl))
          (refine Late.take (i := 9) (v := ?_) rfl (by kernel_rfl) (by kernel_rfl) (by kernel_rfl) (by kernel_rfl) (by kernel_rfl) (fun _ _ _ h => h) (Or.inl ⟨by rfl, ?_⟩) hHeld ?_; rotate_left; focus (intro w hSw; (try dsimp only at hSw); go_simp; try with_reducible rfl))
          (refine Late.take (i := 10) (v := ?_) rfl (by kernel_rfl) (by kernel_rfl) (by kernel_rfl) (by kernel_rfl) (by kernel_rfl) (fun _ _ _ h => h) (Or.inl ⟨by rfl, ?_⟩) hHeld ?_; rotate_left; focus (intro w hSw; (try dsimp only at hSw); go_simp; try with_reducible rfl))
          (refine Late.take (i := 11) (v := ?_) rfl (by kernel_rfl) (by kernel_rfl) (by kernel_rfl) (by kernel_rfl) (by kernel_rfl) (fun _ _ _ h => h) (Or.inl ⟨by rfl, ?_⟩) hHeld ?_; rotate_left; focus (intro w hSw; (try dsimp only at hSw); go_simp; try with_reducible rfl))
          (refine Late.ready (rs := [12]) (by kernel_rfl) (by simp) ?_; refine Late.Ready.cons rfl (fun K hK => ?_) Late.Ready.nil; go_simp; go_at_call 18; (with_reducible refine (HW.out _).mono ?_); rintro e w7 ⟨rfl, hb7⟩; have hM7 := hMd.more hb7; refine hK.out _ _ ⟨hM7.d, (hb7.cell (p := ⟨g, o + k * 4 + 3, none⟩) hg).trans m3d, (hb7.cell (p := ⟨g, o + k * 4 + 1, none⟩) hg).trans m1d⟩ (fun hHeld => ?_); clear hK K)
          (refine Late.ready (rs := [13]) (by kernel_rfl) (by simp) ?_; refine Late.Ready.last (by decide) rfl (fun K hK => ?_); (refine Whole.step_store w7 rfl _ _ 26 rfl w.heap.size _ (cellsD y) rfl rfl hM7.d szD rfl (one_cells y) ?_); refine hK.out _ _ ?_; clear hK K)
          refine Late.done (by kernel_rfl) ?_ _
          have hM8 := hM7.put y
          clear hHeld hM7 hMd hb7 HW
          go_wp2
          go_roundw
          case rel => exact ⟨k + 1, _, _, _, by go_num, by omega, HY, Lib.hid hM8⟩
          case measure =>
            simp [intOf]
            omega
end Go.Proofs.Ytoomanlonhnleaa.Disk
