/- What the document's own Parse answers of any text (chapter 3): the walk. -/
import Derived.Test.YtbilkeadhflibaaGreatDoorYRefF
namespace Go.Proofs.YtbilkeadhflibaaGreatDoor.Job
open Go.RowKit Go.Proofs.YtbilkeadhflibaaGreatDoor.Wire Go.Proofs.YtbilkeadhflibaaGreatDoor.Vec Go.Proofs.YtbilkeadhflibaaGreatDoor.Sel Go.Proofs.YtbilkeadhflibaaGreatDoor.Forms

def TellsA (r : Option V4) (w : World) (e : Ending) (w' : World) : Prop := (match r with
  | some v => e = .returned (.tuple #[vecV v, .bool true])
  | none => e = .returned (.tuple #[vecV (0, 0, 0, 0), .bool false])) ∧ Below w.heap.size w w'

set_option maxHeartbeats 8000000 in
set_option maxRecDepth 100000 in
theorem refParseV_any (t : ByteArray) (ht : t.size ≤ 9223372036854775000) (w : World) :
    Calls Tryz.prog 39 #[.string t] w (TellsA (vecP t) w) := by
  unfold TellsA
  obtain ⟨v, hv⟩ : ∃ v : Nat → Int, v = fun k => (((pv t k).getD 0 : Nat) : Int) := ⟨_, rfl⟩
  obtain ⟨R, hR⟩ : ∃ R, R = vecP t := ⟨_, rfl⟩
  have HR := Lib.hid hR
  have HV := Lib.hid hv
  rw [← hR]
  have f1 := two_boxesG w v
  obtain ⟨W, hW⟩ : ∃ W, W = (w.alloc (boxR fun _ => 0)).alloc (boxR fun _ => 0) := ⟨_, rfl⟩
  rw [← hW] at f1
  have HW := Lib.hid hW
  have HA := Lib.hid f1
  have hz0 : vecV (0, 0, 0, 0) = .agg #[.int .u64 0, .int .u64 0, .int .u64 0, .int .u64 0] := rfl
  rw [hz0]
  clear hW f1 hv hR hz0
  unfold boxR at HW
  go_enter Tryz.func39, Tryz.ntmps39
  go_upto_region 2 with fail
  rw [← HW.out]
  clear HW
  go_wp2
  go_loopw [5, 6, 7] (fun kk fr ii wr => ∃ i k f : Nat, i ≤ t.size + 1 ∧ ii = .int .i64 i ∧ k = (spc 58 t i).1.length ∧ kk = .int .i64 k ∧ f = (spc 58 t i).2 ∧ fr = .int .i64 f ∧ k ≤ 4 ∧ (∀ j, j < k → (pv t j).isSome = true) ∧ GetAt w w.heap.size v k wr) (fun _ _ ii _ => t.size + 1 - (intOf ii).toNat)
  case atStart => exact ⟨0, 0, 0, Nat.zero_le _, rfl, rfl, rfl, rfl, rfl, Nat.zero_le _, fun j hj => absurd hj (by omega), HA.out⟩
  case round =>
    obtain ⟨i, k, f, hi, rfl, hk, rfl, hf, rfl, hk4, hall, hs⟩ := hrel
    have HS := Lib.hid hs
    have HL := Lib.hid hall
    have HK := Lib.hid hk
    have HF := Lib.hid hf
    clear hall hs
    by_cases hle : i ≤ t.size
    · have hlez : (i : Int) ≤ (t.size : Int) := by omega
      have hi0 : (0 : Int) ≤ (i : Int) := by omega
      have hfi : f ≤ i := by rw [hf]; exact (spc_at 58 t i hle).1
      have hf0 : (0 : Int) ≤ (f : Int) := by omega
      have hfz : (f : Int) ≤ (i : Int) := by omega
      have hk0 : (0 : Int) ≤ (k : Int) := by omega
      clear hk hf
      by_cases hgo : i < t.size ∧ t.data.toList.getD i 0 ≠ 58
      · have hltz : (i : Int) < (t.size : Int) := by omega
        have hlt := hgo.1
        have hs1 : spc 58 t (i + 1) = spc 58 t i := if_neg (by intro h; rcases h with h | h; omega; exact hgo.2 h)
        obtain ⟨c, hc⟩ : ∃ c, t[i] = c := ⟨_, rfl⟩
        have hgd : t.data.toList.getD i 0 = c := by
          rw [List.getD_eq_getElem?_getD, byte_at t i hlt, hc]
          rfl
        have hcz : ((c.toNat : Int) != 58) = true := by
          rw [bne_iff_ne]
          intro h
          refine hgo.2 ?_
          rw [hgd]
          exact UInt8.toNat_inj.1 (by have : (58 : UInt8).toNat = 58 := rfl; omega)
        have HS1 := Lib.hid hs1
        clear hs1 hgo hgd
        go_wp2
        go_roundw
        case rel => exact ⟨i + 1, k, f, by omega, by go_num, by rw [HS1.out]; exact HK.out, rfl, by rw [HS1.out]; exact HF.out, rfl, hk4, HL.out, HS.out⟩
        case measure => simp [intOf]; omega
      · have hcut : i = t.size ∨ t.data.toList.getD i 0 = 58 := by
          by_cases h : i = t.size
          · exact .inl h
          · refine .inr ?_
            by_cases h2 : t.data.toList.getD i 0 = 58
            · exact h2
            · exact absurd ⟨by omega, h2⟩ hgo
        obtain ⟨hp1, hp2⟩ := pv_at hle hcut
        rw [← HK.out, ← HF.out] at hp1
        rw [← HK.out] at hp2
        have hs1 : spc 58 t (i + 1) = ((spc 58 t i).1 ++ [t.extract f i], i + 1) := by rw [HF.out]; exact if_pos hcut
        have HNum := Lib.hid (fun W => refNumber_any (t.extract f i) W)
        rw [← hp1] at HNum
        have HS1 := Lib.hid hs1
        have HP := Lib.hid (And.intro hp1 hp2)
        -- the test of the byte
        have hb : (i < t.size ∧ ∃ h : i < t.size, ((t[i].toNat : Int) != 58) = false) ∨ ¬ (i : Int) < (t.size : Int) := by
          by_cases h : i = t.size
          · exact .inr (by omega)
          · refine .inl ⟨by omega, by omega, ?_⟩
            rcases hcut with h2 | h2
            · exact absurd h2 h
            · have hlt : i < t.size := by omega
              rw [List.getD_eq_getElem?_getD, byte_at t i hlt] at h2
              have h3 : t[i] = 58 := h2
              rw [h3]
              rfl
        clear hp1 hp2 hs1 hcut hgo
        cases hpk : pv t k with
        | none =>
          have hRn : R = none := by rw [HR.out]; exact vecP_no HP.out.2 hpk
          subst hRn
          rw [hpk] at HNum
          unfold TellsN at HNum
          clear hpk HR
          rcases hb with ⟨hlt, _, hcz⟩ | hnlt
          · have hltz : (i : Int) < (t.size : Int) := by omega
            obtain ⟨c, hc⟩ : ∃ c, t[i] = c := ⟨_, rfl⟩
            rw [hc] at hcz
            go_wp2_with fail
            with_reducible refine (HNum.out _).mono ?_
            rintro e ws ⟨rfl, kb⟩
            have hq := HS.out.more kb
            obtain ⟨r0, r1, r2, r3, z0, z1, z2, z3⟩ := cells4R hq.res
            have HDd := Lib.hid (set4_boxR hq.res 0 0 0 0)
            have HB := Lib.hid (set4_below (T := w.heap.size) (a := 0) (b := 0) (c := 0) (d := 0) hq.below (by omega))
            clear hq kb
            go_wp2
            obtain ⟨d0, d1, d2, d3⟩ := HDd.out
            unfold set4 at d0 d1 d2 d3
            refine bodyPost_ret (v := .tuple #[.agg #[.int .u64 0, .int .u64 0, .int .u64 0, .int .u64 0], .bool false]) (by simp [results, Tryz.results39, go_sem, d0, d1, d2, d3]) rfl ?_
            exact ⟨rfl, HB.out⟩
          · go_wp2_with fail
            with_reducible refine (HNum.out _).mono ?_
            rintro e ws ⟨rfl, kb⟩
            have hq := HS.out.more kb
            obtain ⟨r0, r1, r2, r3, z0, z1, z2, z3⟩ := cells4R hq.res
            have HDd := Lib.hid (set4_boxR hq.res 0 0 0 0)
            have HB := Lib.hid (set4_below (T := w.heap.size) (a := 0) (b := 0) (c := 0) (d := 0) hq.below (by omega))
            clear hq kb
            go_wp2
            obtain ⟨d0, d1, d2, d3⟩ := HDd.out
            unfold set4 at d0 d1 d2 d3
            refine bodyPost_ret (v := .tuple #[.agg #[.int .u64 0, .int .u64 0, .int .u64 0, .int .u64 0], .bool false]) (by simp [results, Tryz.results39, go_sem, d0, d1, d2, d3]) rfl ?_
            exact ⟨rfl, HB.out⟩
        | some u =>
          rw [hpk] at HNum
          unfold TellsN at HNum
          have hvk : v k = (u : Int) := by
            rw [HV.out]
            show (((pv t k).getD 0 : Nat) : Int) = _
            rw [hpk]
            rfl
          by_cases h4 : k = 4
          · have hRn : R = none := by
              rw [HR.out]
              exact vecP_len (by have := HP.out.2; omega)
            subst hRn
            have h4z : ((k : Int) == 4) = true := by rw [beq_iff_eq]; omega
            clear hpk HR hvk
            rcases hb with ⟨hlt, _, hcz⟩ | hnlt
            · have hltz : (i : Int) < (t.size : Int) := by omega
              obtain ⟨c, hc⟩ : ∃ c, t[i] = c := ⟨_, rfl⟩
              rw [hc] at hcz
              go_wp2_with fail
              with_reducible refine (HNum.out _).mono ?_
              rintro e ws ⟨rfl, kb⟩
              have hq := HS.out.more kb
              obtain ⟨r0, r1, r2, r3, z0, z1, z2, z3⟩ := cells4R hq.res
              have HDd := Lib.hid (set4_boxR hq.res 0 0 0 0)
              have HB := Lib.hid (set4_below (T := w.heap.size) (a := 0) (b := 0) (c := 0) (d := 0) hq.below (by omega))
              clear hq kb
              go_wp2
              obtain ⟨d0, d1, d2, d3⟩ := HDd.out
              unfold set4 at d0 d1 d2 d3
              refine bodyPost_ret (v := .tuple #[.agg #[.int .u64 0, .int .u64 0, .int .u64 0, .int .u64 0], .bool false]) (by simp [results, Tryz.results39, go_sem, d0, d1, d2, d3]) rfl ?_
              exact ⟨rfl, HB.out⟩
            · go_wp2_with fail
              with_reducible refine (HNum.out _).mono ?_
              rintro e ws ⟨rfl, kb⟩
              have hq := HS.out.more kb
              obtain ⟨r0, r1, r2, r3, z0, z1, z2, z3⟩ := cells4R hq.res
              have HDd := Lib.hid (set4_boxR hq.res 0 0 0 0)
              have HB := Lib.hid (set4_below (T := w.heap.size) (a := 0) (b := 0) (c := 0) (d := 0) hq.below (by omega))
              clear hq kb
              go_wp2
              obtain ⟨d0, d1, d2, d3⟩ := HDd.out
              unfold set4 at d0 d1 d2 d3
              refine bodyPost_ret (v := .tuple #[.agg #[.int .u64 0, .int .u64 0, .int .u64 0, .int .u64 0], .bool false]) (by simp [results, Tryz.results39, go_sem, d0, d1, d2, d3]) rfl ?_
              exact ⟨rfl, HB.out⟩
          · have h4z : ((k : Int) == 4) = false := by rw [beq_eq_false_iff_ne]; omega
            have hlt4 : k < 4 := by omega
            have hltz4 : (k : Int) < 4 := by omega
            have HN : Hid (∀ j, j < k + 1 → (pv t j).isSome = true) := Lib.hid (fun j hj => by
              by_cases e : j = k
              · subst e; rw [hpk]; rfl
              · exact HL.out j (by omega))
            have HVk := Lib.hid hvk
            clear hpk hvk h4
            rcases hb with ⟨hlt, _, hcz⟩ | hnlt
            · have hltz : (i : Int) < (t.size : Int) := by omega
              obtain ⟨c, hc⟩ : ∃ c, t[i] = c := ⟨_, rfl⟩
              rw [hc] at hcz
              go_wp2_with fail
              with_reducible refine (HNum.out _).mono ?_
              rintro e ws ⟨rfl, kb⟩
              have hq := HS.out.more kb
              have s0 := cellR hq.sum k hlt4
              have z0 : ws.frozen? ⟨w.heap.size + 1, k, none⟩ = false := frozen_at hq.sum
              have HQ := Lib.hid (hq.set hlt4)
              rw [HVk.out] at HQ
              clear hq kb
              go_wp2
              go_roundw
              case rel => exact ⟨i + 1, k + 1, i + 1, by omega, by go_num, by rw [HS1.out, List.length_append, ← HK.out]; rfl, by go_num, by rw [HS1.out], by go_num, by omega, HN.out, HQ.out⟩
              case measure => simp [intOf]; omega
            · go_wp2_with fail
              with_reducible refine (HNum.out _).mono ?_
              rintro e ws ⟨rfl, kb⟩
              have hq := HS.out.more kb
              have s0 := cellR hq.sum k hlt4
              have z0 : ws.frozen? ⟨w.heap.size + 1, k, none⟩ = false := frozen_at hq.sum
              have HQ := Lib.hid (hq.set hlt4)
              rw [HVk.out] at HQ
              clear hq kb
              go_wp2
              go_roundw
              case rel => exact ⟨i + 1, k + 1, i + 1, by omega, by go_num, by rw [HS1.out, List.length_append, ← HK.out]; rfl, by go_num, by rw [HS1.out], by go_num, by omega, HN.out, HQ.out⟩
              case measure => simp [intOf]; omega
    · have hi7 : i = t.size + 1 := by omega
      have hlez : ¬ (i : Int) ≤ (t.size : Int) := by omega
      have hlen : (cuts 58 t.data.toList).length = k := by rw [HK.out, hi7, ← spc_end, List.length_map]
      clear hk hf
      by_cases h4 : k = 4
      · subst h4
        have hRs : R = some ((pv t 0).getD 0, (pv t 1).getD 0, (pv t 2).getD 0, (pv t 3).getD 0) := by rw [HR.out]; exact vecP_four hlen HL.out
        subst hRs
        have h0 : vecV ((pv t 0).getD 0, (pv t 1).getD 0, (pv t 2).getD 0, (pv t 3).getD 0) = .agg #[.int .u64 (v 0), .int .u64 (v 1), .int .u64 (v 2), .int .u64 (v 3)] := by rw [HV.out]; rfl
        have H0 := Lib.hid h0
        have hq := HS.out
        have hs := hq.sum
        rw [till_four] at hs
        obtain ⟨m0, m1, m2, m3, _⟩ := cells4R hs
        obtain ⟨r0, r1, r2, r3, z0, z1, z2, z3⟩ := cells4R hq.res
        have HDd := Lib.hid (set4_boxR hq.res (v 0) (v 1) (v 2) (v 3))
        have HB := Lib.hid (set4_below (T := w.heap.size) (a := v 0) (b := v 1) (c := v 2) (d := v 3) hq.below (by omega))
        clear hq hs h0 HR
        go_wp2
        obtain ⟨d0, d1, d2, d3⟩ := HDd.out
        unfold set4 at d0 d1 d2 d3
        refine bodyPost_ret (v := .tuple #[.agg #[.int .u64 (v 0), .int .u64 (v 1), .int .u64 (v 2), .int .u64 (v 3)], .bool true]) (by simp [results, Tryz.results39, go_sem, d0, d1, d2, d3]) rfl ?_
        exact ⟨by rw [H0.out], HB.out⟩
      · have hRn : R = none := by rw [HR.out]; exact vecP_len (by omega)
        subst hRn
        have h4z : ((k : Int) != 4) = true := by rw [bne_iff_ne]; omega
        have hq := HS.out
        obtain ⟨r0, r1, r2, r3, z0, z1, z2, z3⟩ := cells4R hq.res
        have HDd := Lib.hid (set4_boxR hq.res 0 0 0 0)
        have HB := Lib.hid (set4_below (T := w.heap.size) (a := 0) (b := 0) (c := 0) (d := 0) hq.below (by omega))
        clear hq HR hlen
        go_wp2
        obtain ⟨d0, d1, d2, d3⟩ := HDd.out
        unfold set4 at d0 d1 d2 d3
        refine bodyPost_ret (v := .tuple #[.agg #[.int .u64 0, .int .u64 0, .int .u64 0, .int .u64 0], .bool false]) (by simp [results, Tryz.results39, go_sem, d0, d1, d2, d3]) rfl ?_
        exact ⟨rfl, HB.out⟩
end Go.Proofs.YtbilkeadhflibaaGreatDoor.Job
