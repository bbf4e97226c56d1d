/- PackBest: the first copy goes where the least is left: the walk, over what the calls say. -/
import Derived.Test.YtbefnophkaepmaaKPart
import Derived.Deep.QuietTactic
namespace Go.Proofs.Ytbefnophkaepmaa.Pack
open Go.RowKit Go.Proofs.Ytbefnophkaepmaa.Label Go.Proofs.Ytbefnophkaepmaa.Sel Go.Proofs.Ytbefnophkaepmaa.Vec Go.Proofs.Ytbefnophkaepmaa.Texts

theorem fitX_one (d : V) (l : List Sl) : fitX d 1 l = (bestL d l).map (fun j => ([j], takeAt d l j)) := by
  unfold fitX
  rw [if_neg (by decide)]
  show fitL d (0 + 1) l = _
  cases h : bestL d l with
  | none => rw [fitL_succ_none h]; rfl
  | some j => rw [fitL_succ_some h]; rfl
theorem nodesOf_one {ls : List Slot} {j : Nat} {s : Slot} (h : ls[j]? = some s) : nodesOf ls [j] = [s.node] := by unfold nodesOf; simp [h]

set_option maxHeartbeats 4000000 in
set_option maxRecDepth 100000 in
theorem packBest_any (S : Says) (v u : Value) (ls : List Slot) (ts : List Tm) (d : Nat → Int) (w : World) (hv : SlRow w v ls) (hu : TRow w u ts) (hf : Sel.Fair ts) (hd : InRange d) (hz : ls.length * 72 ≤ 140737488355328) :
    Calls Try.prog 6 #[v, u, vec (d 0) (d 1) (d 2) (d 3)] w fun e w' => e = .returned (.bool true) ∧ Below w.heap.size w w' := by
  have hl := hv.len
  obtain ⟨a, cap, rfl, _, _⟩ := hv.slice
  obtain ⟨W, hW⟩ : ∃ W, W = w.alloc (boxV d) := ⟨_, rfl⟩
  have hwW : Below w.heap.size w W := by rw [hW]; exact (Below.refl _ _).alloc (Nat.le_refl _) _
  have hWs : W.heap.size = w.heap.size + 1 := by rw [hW]; simp
  have HB := Lib.hid (show W.heap[w.heap.size]? = some (boxV d) from by rw [hW]; exact heap_alloc_new _ _)
  have HV0 := Lib.hid (hv.below hwW)
  have HV := Lib.hid (fun w' (h : Below W.heap.size W w') => HV0.out.below h)
  have HU := Lib.hid (fun w' (h : Below W.heap.size W w') => (hu.below hwW).below h)
  have HX := Lib.hid (examples_any S W)
  have HF := Lib.hid hf
  have HD := Lib.hid hd
  have CFit := Lib.hid (fun w' (h : Below W.heap.size W w') => S.fit (.slice a ls.length cap) u ls ts d 1 w' (HV.out w' h) (HU.out w' h) hf hd hz (by omega))
  have HW := Lib.hid hW
  unfold vec at CFit
  unfold vec
  unfold boxV at HW
  clear hv hu hf hd hz hW S
  go_enter Try.func6, Try.ntmps6
  go_upto_region 1 with fail
  rw [← HW.out]
  clear HW
  go_wp2_with fail
  (with_reducible refine HX.out.mono ?_)
  rintro _ w1 ⟨rfl, b1⟩
  have hb1 := (b1.block _ (by omega : w.heap.size < W.heap.size)).trans HB.out
  obtain ⟨c0, c1, c2, c3, _⟩ := cells4V hb1
  clear HX hb1
  go_wp2_with fail
  (with_reducible refine (CFit.out _ b1).mono ?_)
  rintro _ w2 ⟨hf1, b2⟩
  have H2 := Lib.hid (b1.trans (b2.mono b1.size))
  obtain ⟨fo, rfl, hfo⟩ := fitTold_open hf1
  have HFo := Lib.hid hfo
  clear c0 c1 c2 c3 b1 b2 CFit hf1 hfo
  obtain ⟨fb, hfb⟩ : ∃ fb, (fitX d 1 (seenAll ts ls)).isSome = fb := ⟨_, rfl⟩
  have HFb := Lib.hid hfb
  rw [hfb]
  clear hfb
  go_wp2_with fail
  go_loopw [10, 11] (fun r t wr => ∃ k : Nat, k ≤ ls.length ∧ t = .int .i64 k ∧ r = .int .i64 (placeOf (bestTo d (seenAll ts ls) k)) ∧ Below w2.heap.size w2 wr) (fun _ t _ => ls.length - (intOf t).toNat)
  case atStart => exact ⟨0, Nat.zero_le _, rfl, rfl, Below.refl _ _⟩
  case round =>
    obtain ⟨k, hk, rfl, rfl, hb⟩ := hrel
    have hbw : Below W.heap.size W wr := H2.out.trans (hb.mono H2.out.size)
    by_cases hlt : k < ls.length
    · have hltz : (k : Int) < (ls.length : Int) := by omega
      have hk0 : (0 : Int) ≤ (k : Int) := by omega
      obtain ⟨s, hs⟩ : ∃ s, ls[k]? = some s := ⟨_, List.getElem?_eq_getElem hlt⟩
      obtain ⟨g, o, rfl, hg, hcell⟩ := HV0.out.cells hlt
      obtain ⟨la, lc, p0, p1, p2, p3, p4, p5, hlr, hok⟩ := (hcell.below hg hbw).six hs
      have hgr : g < wr.heap.size := by have := hbw.size; omega
      have hwr : w.heap.size < wr.heap.size := by have := hbw.size; omega
      have hbx : wr.heap[w.heap.size]? = some (boxV d) := (hbw.block _ (by omega)).trans HB.out
      obtain ⟨d0, d1, d2, d3, _⟩ := cells4V hbx
      obtain ⟨W2, hW2⟩ : ∃ W2, W2 = World.drew (wr.alloc (boxV fun _ => 0)) := ⟨_, rfl⟩
      have h2 : Below wr.heap.size wr W2 := by rw [hW2]; exact ((Below.refl _ _).alloc (Nat.le_refl _) _).drew
      have ZW := Lib.hid (show W2.heap[wr.heap.size]? = some (boxV fun _ => 0) from by rw [hW2]; exact heap_alloc_new wr _)
      have LW := Lib.hid (show wr.heap.size < W2.heap.size from by rw [hW2]; show _ < (wr.alloc _).heap.size; rw [World.size_alloc]; omega)
      have r1 := (h2.cell (p := ⟨g, o + k * 6 + 1, none⟩) hgr).trans p1
      have r2 := (h2.cell (p := ⟨g, o + k * 6 + 1 + 1, none⟩) hgr).trans p2
      have r3 := (h2.cell (p := ⟨g, o + k * 6 + 1 + 2, none⟩) hgr).trans p3
      have r4 := (h2.cell (p := ⟨g, o + k * 6 + 1 + 3, none⟩) hgr).trans p4
      have f0 := (h2.cell (p := ⟨w.heap.size, 0, none⟩) hwr).trans d0
      have f1 := (h2.cell (p := ⟨w.heap.size, 1, none⟩) hwr).trans d1
      have f2 := (h2.cell (p := ⟨w.heap.size, 2, none⟩) hwr).trans d2
      have f3 := (h2.cell (p := ⟨w.heap.size, 3, none⟩) hwr).trans d3
      have HC1 := Lib.hid (vecSub_left s.free d hok.free HD.out wr.drew)
      have HC2 := Lib.hid (vecSub_left s.free d hok.free HD.out W2)
      have H2w := Lib.hid h2
      obtain ⟨z, hz⟩ : ∃ z, leftOf s.free d = z := ⟨_, rfl⟩
      obtain ⟨ft, hft⟩ : ∃ ft, fits4 d s.free = ft := ⟨_, rfl⟩
      rw [hz, hft] at HC1 HC2
      have HZ0 := Lib.hid hz
      have HFt := Lib.hid hft
      have HCell := Lib.hid (And.intro hcell hs)
      have HBx := Lib.hid hbx
      rw [hW2] at r1 r2 r3 r4 f0 f1 f2 f3 HC2
      have HW2 := Lib.hid hW2
      unfold boxV at r1 r2 r3 r4 f0 f1 f2 f3 HC2 HW2
      clear hz hft hcell hs hlr hok h2 hW2 p0 p5 hbx
      go_upto_region 9 with fail
      go_cut [12, 13] (fun p b wx => ∃ P, p = .pointer (some ⟨P, 0, none⟩) ∧ b = .bool ft ∧ wr.heap.size ≤ P ∧ wx.heap[P]? = some (boxV z) ∧ Below wr.heap.size wr wx)
      case first =>
        go_region_law (first
          | (go_simp; go_at_call 19; (with_reducible refine HC1.out.mono ?_); rintro e w3 ⟨rfl, hb2⟩)
          | (go_simp; go_at_call 19; (with_reducible refine HC2.out.mono ?_); rintro e w3 ⟨rfl, hb2⟩; rw [← HW2.out] at hb2; have hz := (hb2.block _ LW.out).trans ZW.out; obtain ⟨z0, z1, z2, z3, y0, y1, y2, y3⟩ := cells4V hz; have HZ := Lib.hid hz; clear hz))
        all_goals
          go_wp2_with fail
          go_meet
          first
            | exact ⟨w3.heap.size, rfl, rfl, hb2.size, heap_alloc_new w3 _, ((Below.refl _ wr).drew.trans hb2).alloc hb2.size _⟩
            | exact ⟨wr.heap.size, rfl, rfl, Nat.le_refl _, set4_heapV HZ.out z, set4_below (H2w.out.trans (hb2.mono H2w.out.size)) (Nat.le_refl _)⟩
      case rest =>
        obtain ⟨P, rfl, rfl, hP, hPz, hbc⟩ := hcut
        clear r1 r2 r3 r4 f0 f1 f2 f3 HC1 HC2 HW2 H2w ZW LW p1 p2 p3 p4 d0 d1 d2 d3
        have hstep := bestTo_succ (d := d) (seenAll_get (ts := ts) HCell.out.2)
        obtain ⟨b, hbe⟩ : ∃ b, bestTo d (seenAll ts ls) k = b := ⟨_, rfl⟩
        have hbest := bestTo_best d (seenAll ts ls) k (by unfold seenAll; rw [List.length_map]; exact hk)
        rw [hbe] at hstep hbest ⊢
        have hbc1 := hb.trans (hbc.mono hb.size)
        have hbwc : Below W.heap.size W wc := hbw.trans (hbc.mono hbw.size)
        have hgc : g < wc.heap.size := by have := hbc.size; omega
        obtain ⟨la', lc', p0, p1, p2, p3, p4, p5, hlr, hok⟩ := (HCell.out.1.below hg hbwc).six HCell.out.2
        have HM := Lib.hid (match_slot HF.out hok wc (HU.out _ hbwc) hlr)
        obtain ⟨m, hm⟩ : ∃ m, (seen ts s).1 = m := ⟨_, rfl⟩
        rw [hm] at HM
        have HSt := Lib.hid hstep
        have HBe := Lib.hid hbest
        have HMe := Lib.hid hm
        have HPz := Lib.hid hPz
        have hPs : P < wc.heap.size := (Array.getElem?_eq_some_iff.1 hPz).1
        clear hstep hm p0 p1 p2 p3 p4 hlr hok hPz hbest hbe
        have stay : cand d (seen ts s) = false → Hid (bestTo d (seenAll ts ls) (k + 1) = b) := fun hc => Lib.hid (by
          rw [HSt.out]; unfold bestStep; rw [hc]; rfl)
        cases ft with
        | false =>
          have HN := stay (by unfold cand seen; rw [HFt.out]; exact Bool.and_false _)
          clear stay p5 HM
          go_wp2
          go_roundw
          case rel => exact ⟨k + 1, by omega, by go_num, by rw [HN.out], hbc1⟩
          case measure => simp [intOf]; omega
        | true =>
          cases m with
          | false =>
            have HN := stay (by unfold cand; rw [HMe.out]; rfl)
            clear stay
            go_wp2_with fail
            (with_reducible refine HM.out.mono ?_)
            rintro _ wd ⟨rfl, hbd⟩
            clear HM p5
            go_wp2
            go_roundw
            case rel => exact ⟨k + 1, by omega, by go_num, by rw [HN.out], hbc1.trans (hbd.mono hbc1.size)⟩
            case measure => simp [intOf]; omega
          | true =>
            have hcand : cand d (seen ts s) = true := by unfold cand; rw [HMe.out]; exact HFt.out
            have hzs : z = sub4 s.free d := by rw [← HZ0.out]; unfold leftOf; rw [if_pos HFt.out]
            have HC := Lib.hid hcand
            have HZs := Lib.hid hzs
            clear stay hcand hzs
            go_wp2_with fail
            (with_reducible refine HM.out.mono ?_)
            rintro _ wd ⟨rfl, hbd⟩
            clear HM p5
            have hds := hbd.size
            have hcs := hbc.size
            have HPd := Lib.hid ((hbd.block _ hPs).trans HPz.out)
            have hbd1 := hbc1.trans (hbd.mono hbc1.size)
            have hbwd := hbwc.trans (hbd.mono hbwc.size)
            cases b with
            | none =>
              have HN : Hid (bestTo d (seenAll ts ls) (k + 1) = some (k, z)) := Lib.hid (by
                rw [HSt.out]; unfold bestStep; rw [if_pos HC.out, HZs.out]; rfl)
              unfold placeOf
              go_wp2
              go_roundw
              case rel => exact ⟨k + 1, by omega, by go_num, by rw [HN.out]; rfl, hbd1⟩
              case measure => simp [intOf]; omega
            | some pr =>
              obtain ⟨j, wv⟩ := pr
              have hib : IsBest d (seenAll ts ls) k j wv := HBe.out
              have hjk := hib.below
              obtain ⟨sl, hsl1, hsl2, hsl3⟩ := hib.there
              have hjl : j < ls.length := by omega
              obtain ⟨t, ht⟩ : ∃ t, ls[j]? = some t := ⟨_, List.getElem?_eq_getElem hjl⟩
              rw [seenAll_get ht] at hsl1
              obtain rfl : seen ts t = sl := Option.some.inj hsl1
              have hft2 : fits4 d t.free = true := by
                unfold cand seen at hsl2; rw [Bool.and_eq_true] at hsl2; exact hsl2.2
              have hwz : leftOf t.free d = wv := by unfold leftOf; rw [if_pos hft2, hsl3]; rfl
              have hj0 : ¬ (j : Int) < 0 := by omega
              have hj0b : decide ((j : Int) < 0) = false := decide_eq_false hj0
              have hjz : (j : Int) < (ls.length : Int) := by omega
              have hj00 : (0 : Int) ≤ (j : Int) := by omega
              obtain ⟨la2, lc2, p0, p1, p2, p3, p4, p5, hlr2, hok2⟩ := (HCell.out.1.below hg hbwd).six ht
              have hgd : g < wd.heap.size := by have := hbwd.size; omega
              have hwd : w.heap.size < wd.heap.size := by have := hbwd.size; omega
              have hbx : wd.heap[w.heap.size]? = some (boxV d) := (hbwd.block _ (by omega)).trans HB.out
              obtain ⟨d0, d1, d2, d3, _⟩ := cells4V hbx
              obtain ⟨W2, hW2⟩ : ∃ W2, W2 = World.drew (wd.alloc (boxV fun _ => 0)) := ⟨_, rfl⟩
              have h2 : Below wd.heap.size wd W2 := by rw [hW2]; exact ((Below.refl _ _).alloc (Nat.le_refl _) _).drew
              have ZW := Lib.hid (show W2.heap[wd.heap.size]? = some (boxV fun _ => 0) from by rw [hW2]; exact heap_alloc_new wd _)
              have LW := Lib.hid (show wd.heap.size < W2.heap.size from by rw [hW2]; show _ < (wd.alloc _).heap.size; rw [World.size_alloc]; omega)
              have r1 := (h2.cell (p := ⟨g, o + j * 6 + 1, none⟩) hgd).trans p1
              have r2 := (h2.cell (p := ⟨g, o + j * 6 + 1 + 1, none⟩) hgd).trans p2
              have r3 := (h2.cell (p := ⟨g, o + j * 6 + 1 + 2, none⟩) hgd).trans p3
              have r4 := (h2.cell (p := ⟨g, o + j * 6 + 1 + 3, none⟩) hgd).trans p4
              have f0 := (h2.cell (p := ⟨w.heap.size, 0, none⟩) hwd).trans d0
              have f1 := (h2.cell (p := ⟨w.heap.size, 1, none⟩) hwd).trans d1
              have f2 := (h2.cell (p := ⟨w.heap.size, 2, none⟩) hwd).trans d2
              have f3 := (h2.cell (p := ⟨w.heap.size, 3, none⟩) hwd).trans d3
              have HC1 := Lib.hid (vecSub_left t.free d hok2.free HD.out wd.drew)
              have HC2 := Lib.hid (vecSub_left t.free d hok2.free HD.out W2)
              have H2w := Lib.hid h2
              rw [hwz, hft2] at HC1 HC2
              rw [hW2] at r1 r2 r3 r4 f0 f1 f2 f3 HC2
              have HW2 := Lib.hid hW2
              unfold boxV at r1 r2 r3 r4 f0 f1 f2 f3 HC2 HW2
              have HIb := Lib.hid (And.intro hib ht)
              clear hib hsl1 hsl2 hsl3 ht hft2 hwz hlr2 hok2 h2 hW2 p0 p5 hbx
              unfold placeOf
              go_upto_region 13 with fail
              go_cut [14, 15] (fun p b wx => ∃ P', p = .pointer (some ⟨P', 0, none⟩) ∧ b = .bool true ∧ wd.heap.size ≤ P' ∧ wx.heap[P']? = some (boxV wv) ∧ Below wd.heap.size wd wx)
              case first =>
                go_region_law (first
                  | (go_simp; go_at_call 19; (with_reducible refine HC1.out.mono ?_); rintro e w3 ⟨rfl, hb2⟩)
                  | (go_simp; go_at_call 19; (with_reducible refine HC2.out.mono ?_); rintro e w3 ⟨rfl, hb2⟩; rw [← HW2.out] at hb2; have hz := (hb2.block _ LW.out).trans ZW.out; obtain ⟨z0, z1, z2, z3, y0, y1, y2, y3⟩ := cells4V hz; have HZ := Lib.hid hz; clear hz))
                all_goals
                  go_wp2_with fail
                  go_meet
                  first
                    | exact ⟨w3.heap.size, rfl, rfl, hb2.size, heap_alloc_new w3 _, ((Below.refl _ wd).drew.trans hb2).alloc hb2.size _⟩
                    | exact ⟨wd.heap.size, rfl, rfl, Nat.le_refl _, set4_heapV HZ.out wv, set4_below (H2w.out.trans (hb2.mono H2w.out.size)) (Nat.le_refl _)⟩
              case rest =>
                obtain ⟨P', rfl, rfl, hP', hPz', hbe⟩ := hcut
                clear r1 r2 r3 r4 f0 f1 f2 f3 HC1 HC2 HW2 H2w ZW LW p1 p2 p3 p4 d0 d1 d2 d3
                have hbe1 := hbd1.trans (hbe.mono hbd1.size)
                have hPd : P < wd.heap.size := by omega
                have HPe := Lib.hid ((hbe.block _ hPd).trans HPd.out)
                obtain ⟨q0, q1, q2, q3, _⟩ := cells4V HPe.out
                obtain ⟨v0, v1, v2, v3, _⟩ := cells4V hPz'
                have HO := Lib.hid (order_any z wv wc)
                obtain ⟨od, hod⟩ : ∃ od, ordV z wv = od := ⟨_, rfl⟩
                have hlt4 := ordV_lt (x := z) (y := wv)
                rw [hod] at HO hlt4
                unfold vec at HO
                cases hl4 : lt4 z wv with
                | true =>
                  have hneg : od < 0 := hlt4.2 hl4
                  have hnegb : decide (od < 0) = true := decide_eq_true hneg
                  have HN : Hid (bestTo d (seenAll ts ls) (k + 1) = some (k, z)) := Lib.hid (by
                    rw [HSt.out]; unfold bestStep; rw [if_pos HC.out]
                    show (if lt4 (sub4 s.free d) wv = true then some (k, sub4 s.free d) else some (j, wv)) = _
                    rw [← HZs.out, if_pos hl4])
                  clear hl4 hod hlt4
                  go_wp2_with fail
                  (with_reducible refine HO.out.mono ?_)
                  rintro _ we ⟨rfl, hbe2⟩
                  clear q0 q1 q2 q3 v0 v1 v2 v3 HO
                  have hbf := hbe1.trans (hbe2.mono hbe1.size)
                  go_wp2
                  go_roundw
                  case rel => exact ⟨k + 1, by omega, by go_num, by rw [HN.out]; rfl, hbf⟩
                  case measure => simp [intOf]; omega
                | false =>
                  have hneg : ¬ od < 0 := fun h => by rw [hlt4.1 h] at hl4; cases hl4
                  have hnegb : decide (od < 0) = false := decide_eq_false hneg
                  have HN : Hid (bestTo d (seenAll ts ls) (k + 1) = some (j, wv)) := Lib.hid (by
                    rw [HSt.out]; unfold bestStep; rw [if_pos HC.out]
                    show (if lt4 (sub4 s.free d) wv = true then some (k, sub4 s.free d) else some (j, wv)) = _
                    rw [← HZs.out, if_neg (by rw [hl4]; simp)])
                  clear hl4 hod hlt4
                  go_wp2_with fail
                  (with_reducible refine HO.out.mono ?_)
                  rintro _ we ⟨rfl, hbe2⟩
                  clear q0 q1 q2 q3 v0 v1 v2 v3 HO
                  have hbf := hbe1.trans (hbe2.mono hbe1.size)
                  go_wp2
                  go_roundw
                  case rel => exact ⟨k + 1, by omega, by go_num, by rw [HN.out]; rfl, hbf⟩
                  case measure => simp [intOf]; omega
    · have hltz : ¬ (k : Int) < (ls.length : Int) := by omega
      obtain rfl : k = ls.length := by omega
      have hsl : (seenAll ts ls).length = ls.length := by unfold seenAll; rw [List.length_map]
      have hbl : bestL d (seenAll ts ls) = (bestTo d (seenAll ts ls) ls.length).map (·.1) := by unfold bestL; rw [hsl]
      have hbest := bestTo_best d (seenAll ts ls) ls.length (by omega)
      have hfx := fitX_one d (seenAll ts ls)
      have HEnd := Lib.hid (hwW.trans (hbw.mono hwW.size))
      rw [hbl] at hfx
      obtain ⟨b, hbe⟩ : ∃ b, bestTo d (seenAll ts ls) ls.length = b := ⟨_, rfl⟩
      rw [hbe] at hfx hbest ⊢
      cases b with
      | none =>
        have hfb : fb = false := by rw [← HFb.out, hfx]; rfl
        subst hfb
        clear hfx hbest hbe hbl hsl HFb HFo
        unfold placeOf
        go_wp2
        go_ret
        exact ⟨rfl, HEnd.out⟩
      | some pr =>
        obtain ⟨j, wv⟩ := pr
        have hib : IsBest d (seenAll ts ls) ls.length j wv := hbest
        have hjl := hib.below
        obtain ⟨t, ht⟩ : ∃ t, ls[j]? = some t := ⟨_, List.getElem?_eq_getElem hjl⟩
        have hfb : fb = true := by rw [← HFb.out, hfx]; rfl
        subst hfb
        have hrow : rowsOf ls (fitX d 1 (seenAll ts ls)) = [t.node] := by rw [hfx]; exact nodesOf_one ht
        have hso := HFo.out
        rw [hrow] at hso
        have hso := hso.below hb
        obtain ⟨oa, oc, rfl, _, _⟩ := hso.slice
        obtain ⟨go, oo, rfl, hgo, hco⟩ := hso.cells (k := 0) (by simp)
        have x0 : wr.cell? ⟨go, oo + 0, none⟩ = some (.string t.node) := hco 0 t.node rfl
        rw [Nat.add_zero] at x0
        obtain ⟨g, o, rfl, hg, hcell⟩ := HV0.out.cells hjl
        obtain ⟨la2, lc2, p0, p1, p2, p3, p4, p5, hlr2, hok2⟩ := (hcell.below hg hbw).six ht
        have hj0 : ¬ (j : Int) < 0 := by omega
        have hj0b : decide ((j : Int) < 0) = false := decide_eq_false hj0
        have hjz : (j : Int) < (ls.length : Int) := by omega
        have hj00 : (0 : Int) ≤ (j : Int) := by omega
        have hqq : (t.node.toList == t.node.toList) = true := by simp
        clear hfx hbest hbe hbl hsl HFb HFo hib hrow hso hco hcell hlr2 hok2 ht p1 p2 p3 p4 p5
        unfold placeOf
        go_wp2
        go_quiet (fail)
        go_wp2
        go_ret
        exact ⟨rfl, drewN_below HEnd.out _⟩
end Go.Proofs.Ytbefnophkaepmaa.Pack
