/- What the program's Fit answers of any slots, selector, demand, number (chapter 13): as the document has it; of memory that was there nothing turns. -/
import Derived.Test.YtbefnophkaepmaaKDelB
import Derived.Test.YtbefnophkaepmaaKShelf
import Derived.OwnWalk
import Derived.Laws.EntriesVeiled
import Derived.Lib.SliceRun
namespace Go.Proofs.Ytbefnophkaepmaa.Pack
open Go.RowKit Go.Proofs.Ytbefnophkaepmaa.Label Go.Proofs.Ytbefnophkaepmaa.Sel Go.Proofs.Ytbefnophkaepmaa.Vec Go.Proofs.Ytbefnophkaepmaa.Texts

theorem sizeS (w : World) : (Go.sizeOf 47).run Try.prog w = .ok 6 w := by kernel_rfl

set_option maxHeartbeats 1000000 in
set_option maxRecDepth 100000 in
theorem clone_any (v : Value) (ls : List Slot) (w : World) (hv : SlRow w v ls) (hz : ls.length * 72 ≤ 140737488355328) :
    Calls Try.prog 24 #[v] w fun e w' => ∃ v', e = .returned v' ∧ LRow w w' w.heap.size v' ls ∧ Below w.heap.size w w' := by
  obtain ⟨i0, hi, hz0, hz1, hz2⟩ := info_parts infoS
  rcases hv with ⟨rfl, a, cap, rfl, hm⟩ | ⟨hne, g, o, cap, rfl, hg, hcap, hm, hcell⟩
  · cases a with
    | none =>
      refine (AnyE.slices_Clone_nil Laid.laysSlE041_f24 0 cap w).mono ?_
      rintro e w' ⟨rfl, rfl⟩
      exact ⟨_, rfl, .inl ⟨rfl, _, _, rfl, Nat.zero_le _⟩, Below.refl _ _⟩
    | some a =>
      go_enter Try.func24, Try.ntmps24
      have hnil := fun w => Lib.run_eql_slice_nil (P := Try.prog) w 22 47 (some a) 0 cap 0 0 Try.underlying22
      go_wp2
      go_ret
      exact ⟨_, rfl, .inl ⟨rfl, _, _, rfl, Nat.zero_le _⟩, (Below.refl _ _).alloc (Nat.le_refl _) _⟩
  · obtain ⟨xs, e, hx⟩ := hcell.values
    have hlen : xs.length = ls.length := by rw [← e, List.length_map]
    refine (AnyE.slices_Clone Laid.laysSlE041_f24 i0 zeroSl 6 72 hi hz0 hz1 hz2 rfl (by omega) sizeS g o ls.length cap (xs.flatMap cellsP) w (by rw [fm6_len, hlen]) (by unfold maxLen; omega) (by omega)
      (fun k u hk => by
        obtain ⟨j, i, p, hk', hj, hi⟩ := fm6_at xs k u hk
        rw [hk', ← Nat.add_assoc]
        exact (hx j p hj).1 i u hi)
      (fun u hu => by
        obtain ⟨p, hp, hu⟩ := List.mem_flatMap.1 hu
        obtain ⟨j, hj⟩ := List.mem_iff_getElem?.1 hp
        obtain ⟨la, lc, hl⟩ := Label.Row.slice (hx j p hj).2.1
        exact cells_one p hl u hu)).mono ?_
    rintro e' w' ⟨v', rfl, hown, _, hb⟩
    rw [← hlen] at hown
    refine ⟨v', rfl, own_lrow hown e (fun p hp => ?_), hb⟩
    obtain ⟨j, hj⟩ := List.mem_iff_getElem?.1 hp
    exact (hx j p hj).2

set_option maxRecDepth 100000 in
theorem matching_any (ua : Option Addr) (un uc : Nat) (w : World) :
    Calls Try.prog 22 #[.slice ua un uc] w fun e w' => e = .returned (.func (.func 39) #[] #[.pointer (some ⟨w.heap.size, 0, none⟩)]) ∧ w' = w.alloc (.cells #[.slice ua un uc] 23) := by
  go_enter Try.func22, Try.ntmps22
  go_wp2
  go_ret
  exact ⟨rfl, rfl⟩
/-- The question that is asked, in whatever world behind. -/
theorem asks_any {ts : List Tm} (hf : Sel.Fair ts) {u : Value} {W0 : World} {c m : Nat} (hm : W0.cell? ⟨m, 0, none⟩ = some (.func (.func 39) #[] #[.pointer (some ⟨c, 0, none⟩)])) (hml : m < W0.heap.size) (hc : W0.cell? ⟨c, 0, none⟩ = some u) (hcl : c < W0.heap.size) (hu : TRow W0 u ts) : Asks W0 W0.heap.size ts m := by
  intro wr s lv hb ok hl
  have := hb.size
  exact lacks1_any hf ok wr ((hb.cell (p := ⟨m, 0, none⟩) hml).trans hm) (by omega) ((hb.cell (p := ⟨c, 0, none⟩) hcl).trans hc) (by omega) (hu.below hb) (hl.below hb)

set_option maxHeartbeats 4000000 in
set_option maxRecDepth 100000 in
theorem fit_any (v u : Value) (ls : List Slot) (ts : List Tm) (d : Nat → Int) (n : Int) (w : World) (hv : SlRow w v ls) (hu : TRow w u ts) (hf : Sel.Fair ts) (hd : InRange d) (hz : ls.length * 72 ≤ 140737488355328) :
    Calls Try.prog 10 #[v, u, vec (d 0) (d 1) (d 2) (d 3), .int .i64 n] w fun e w' => FitTold ls (fitX d n (seenAll ts ls)) e w' ∧ Below w.heap.size w w' := by
  obtain ⟨a, cap, rfl, _, _⟩ := hv.slice
  by_cases h8 : 8 < n
  · have HE : Hid (fitX d n (seenAll ts ls) = none) := Lib.hid (if_pos h8)
    have hb : Below w.heap.size w (w.alloc (boxV d)) := (Below.refl _ _).alloc (Nat.le_refl _) _
    unfold vec
    unfold boxV at hb
    go_enter Try.func10, Try.ntmps10
    go_wp2
    go_ret2
    rw [HE.out]
    exact ⟨rfl, hb⟩
  obtain ⟨N, hN⟩ : ∃ N : Nat, n.toNat = N := ⟨_, rfl⟩
  have hfx : fitX d n (seenAll ts ls) = fitL d N (seenAll ts ls) := by unfold fitX; rw [if_neg h8, hN]
  rw [hfx]
  have hN8 : N ≤ 8 := by omega
  have HNn : ∀ k : Nat, (k : Int) < n ↔ k < N := fun k => by omega
  obtain ⟨ua, uc, rfl, _, _⟩ := hu.slice
  obtain ⟨W, hW⟩ : ∃ W, W = w.alloc (boxV d) := ⟨_, rfl⟩
  have hwW : Below w.heap.size w W := by rw [hW]; exact (Below.refl _ _).alloc (Nat.le_refl _) _
  have hWs : W.heap.size = w.heap.size + 1 := by rw [hW]; simp
  have hWb : W.heap[w.heap.size]? = some (boxV d) := by rw [hW]; exact heap_alloc_new _ _
  obtain ⟨W1, hW1⟩ : ∃ W1, W1 = W.alloc (.cells #[.slice ua ts.length uc] 23) := ⟨_, rfl⟩
  have h1 : Below W.heap.size W W1 := by rw [hW1]; exact (Below.refl _ _).alloc (Nat.le_refl _) _
  have hc1 : W1.cell? ⟨W.heap.size, 0, none⟩ = some (.slice ua ts.length uc) := by rw [hW1]; exact cell_at (heap_alloc_new _ _) rfl
  have h1s : W1.heap.size = W.heap.size + 1 := by rw [hW1]; simp
  obtain ⟨W2, hW2⟩ : ∃ W2, W2 = W1.alloc (.cells #[.func (.func 39) #[] #[.pointer (some ⟨W.heap.size, 0, none⟩)]] 60) := ⟨_, rfl⟩
  have h2 : Below W1.heap.size W1 W2 := by rw [hW2]; exact (Below.refl _ _).alloc (Nat.le_refl _) _
  have hm2 : W2.cell? ⟨W1.heap.size, 0, none⟩ = some (.func (.func 39) #[] #[.pointer (some ⟨W.heap.size, 0, none⟩)]) := by rw [hW2]; exact cell_at (heap_alloc_new _ _) rfl
  have h2s : W2.heap.size = W1.heap.size + 1 := by rw [hW2]; simp
  have hc2 : W2.cell? ⟨W.heap.size, 0, none⟩ = some (.slice ua ts.length uc) := (h2.cell (p := ⟨W.heap.size, 0, none⟩) (show W.heap.size < W1.heap.size by omega)).trans hc1
  have hW02 : Below W.heap.size W W2 := h1.trans (h2.mono (by omega))
  have hw2 : Below w.heap.size w W2 := hwW.trans (hW02.mono (by omega))
  have HAsk := Lib.hid (asks_any hf hm2 (by omega) hc2 (by omega) (hu.below hw2))
  have HB := Lib.hid (fun w' (h : Below W2.heap.size W2 w') => (show w'.heap[w.heap.size]? = some (boxV d) from (h.block _ (by omega)).trans ((hW02.block _ (by omega)).trans hWb)))
  have HCl := Lib.hid (clone_any _ ls W2 (hv.below hw2) hz)
  obtain ⟨i0, hi, hz0, hz1, hz2⟩ := info_parts infoStr
  have HD := Lib.hid hd
  have HW := Lib.hid hW
  have HW1 := Lib.hid hW1
  have HW2 := Lib.hid hW2
  have H2 := Lib.hid hw2
  have HMat := Lib.hid (matching_any ua ts.length uc W)
  have HSz := Lib.hid (And.intro hWs (And.intro h1s h2s))
  unfold vec
  unfold boxV at HW
  clear hv hu hf hd hW hW1 hW2 hfx hN hm2 hc2 hc1 h1 h2 hwW hWb hW02 hw2 hWs h1s h2s
  go_enter Try.func10, Try.ntmps10
  go_upto_region 1 with fail
  rw [← HW.out]
  clear HW
  go_wp2_with fail
  (with_reducible refine HMat.out.mono ?_)
  rintro _ _ ⟨rfl, rfl⟩
  rw [← HW1.out]
  clear HW1 HMat
  go_upto_region 4 with fail
  rw [← HW2.out]
  clear HW2
  go_wp2_with fail
  (with_reducible refine HCl.out.mono ?_)
  rintro _ w3 ⟨v3, rfl, hlr3, hb3⟩
  clear HCl
  have HDel := Lib.hid (delete_any v3 ls w3 hlr3 hb3 hb3.size HAsk.out)
  clear hlr3
  go_wp2_with fail
  (with_reducible refine HDel.out.mono ?_)
  rintro _ w4 ⟨lv, rfl, hlr4, hb4⟩
  clear HDel HAsk hb3
  obtain ⟨B, hB⟩ : ∃ B, W2.heap.size = B := ⟨_, rfl⟩
  rw [hB] at hlr4 hb4 HB
  have HL := Lib.hid hlr4
  have hB4 : B ≤ w4.heap.size := by rw [← hB]; exact (hB ▸ hb4).size
  have hBs : w.heap.size + 1 < B := by have := HSz.out; omega
  clear hlr4
  go_wp2
  go_loopw [8, 23] (fun ov t wr => ∃ (k : Nat) (js : List Nat), k ≤ N ∧ t = .int .i64 k ∧ fitL d k (seenAll ts ls) = some (js, seenAll ts (leftS d js ls)) ∧ js.length = k ∧ LRow W2 wr B lv (keptS ts (leftS d js ls)) ∧ wr.ownsRow w4.heap.size 9 1 ov js.length (svals (nodesOf ls js)) ∧ Below B W2 wr ∧ w4.heap.size ≤ wr.heap.size) (fun _ t _ => N - (intOf t).toNat)
  case atStart => exact ⟨0, [], Nat.zero_le _, rfl, rfl, rfl, HL.out, World.ownsRow_nil _ _ _ _, hb4, Nat.le_refl _⟩
  case round =>
    obtain ⟨k, js, hk, rfl, hfit, hjl, hlr, hown, hb, hsz⟩ := hrel
    by_cases hlt : k < N
    · have hltz : (k : Int) < n := (HNn k).2 hlt
      have hk0 : (0 : Int) ≤ (k : Int) := by omega
      obtain ⟨X, hX⟩ : ∃ X, X = leftS d js ls := ⟨_, rfl⟩
      rw [← hX] at hfit hlr
      have HX := Lib.hid hX
      obtain ⟨d0, d1, d2, d3, _⟩ := cells4V (HB.out wr hb)
      have HTi := Lib.hid (tightest_any lv (keptS ts X) d wr (hlr.slrow (by rw [hB]; exact hb)) HD.out)
      have hbk := bestK ts d X
      obtain ⟨b, hbe⟩ : ∃ b, bestTo d (seenAll [] (keptS ts X)) (keptS ts X).length = b := ⟨_, rfl⟩
      rw [hbe] at HTi hbk
      obtain ⟨hr1, hr2⟩ := fit_snoc hfit
      have HR2 := Lib.hid hr2
      have HLr := Lib.hid hlr
      have HOwn := Lib.hid hown
      have HFit := Lib.hid hfit
      clear hr1 hr2 hlr hown hX hfit hbe
      cases b with
      | none =>
        have hbn : bestL d (seenAll ts X) = none := hbk
        rw [hbn] at HR2
        have HE : Hid (fitL d N (seenAll ts ls) = none) := Lib.hid (fit_none HR2.out (by omega))
        clear HR2 hbk hbn
        unfold vec placeOf leastOf at HTi
        simp only at HTi
        go_wp2_with fail
        (with_reducible refine HTi.out.mono ?_)
        rintro _ wq ⟨rfl, hbq⟩
        have hbF := H2.out.trans ((hb.trans (hbq.mono (by have := hb.size; omega))).mono (by omega))
        have hbG : Below w.heap.size w (wq.alloc (boxV fun _ => 0)) := hbF.alloc hbF.size _
        unfold boxV at hbG
        clear HTi d0 d1 d2 d3
        go_wp2
        go_ret2
        rw [HE.out]
        exact ⟨rfl, hbG⟩
      | some pr =>
        obtain ⟨i, z⟩ := pr
        obtain ⟨j, s, hbl, hs, hm, hij, hzs, hfits⟩ := hbk
        rw [hbl] at HR2
        have hO : (keptS ts X)[i]? = some s := by rw [hij]; exact keptS_get hs hm
        have hset : keptS ts (takeS d X j) = (keptS ts X).set i { s with free := z } := by rw [keptS_take hs hm, ← hij, hzs]
        obtain ⟨M, hM⟩ : ∃ M, (keptS ts X).length = M := ⟨_, rfl⟩
        have hiM : i < M := by rw [← hM]; exact (List.getElem?_eq_some_iff.1 hO).1
        obtain ⟨la, lcap, hlv, hMz⟩ : ∃ la lcap, lv = .slice la M lcap ∧ M ≤ 9223372036854775807 := by
          obtain ⟨a1, c1, h1, h2⟩ := HLr.out.slice
          rw [hM] at h1 h2
          exact ⟨a1, c1, h1, h2⟩
        subst hlv
        have hok : s.ok := by
          rcases HLr.out with ⟨h0, _⟩ | ⟨_, g, c1, _, _, _, _, _, h6⟩
          · rw [h0] at hO; cases hO
          · obtain ⟨_, _, _, _, ok⟩ := h6 i s hO; exact ok
        have hzr : InRange z := by rw [hzs]; exact sub_range hok.free HD.out hfits
        obtain ⟨g, rfl, hgB, hgs, hnl, _, hcl⟩ := HLr.out.store hO z hzr
        have hgw4 : g < w4.heap.size := by
          rcases HL.out with ⟨_, a2, c2, h1, _⟩ | ⟨_, g2, c2, h1, _, h3, _⟩
          · injection h1 with _ e2 _; omega
          · injection h1 with e1 _ _
            injection e1 with e1
            injection e1 with e1 _ _
            omega
        have hcapM : M ≤ lcap ∧ lcap ≤ maxLen := by
          rcases HLr.out with ⟨h0, _⟩ | ⟨_, g2, c2, h1, _, _, h4, h5, _⟩
          · rw [h0] at hO; cases hO
          · injection h1 with _ _ e3; subst e3; rw [hM] at h4; exact ⟨h4, h5⟩
        have HCap := Lib.hid hcapM
        have HCl := Lib.hid hcl
        have HO := Lib.hid hO
        have HSet := Lib.hid hset
        have HS := Lib.hid hs
        have HM := Lib.hid hM
        have HZr := Lib.hid hzr
        clear hbl hs hm hij hzs hfits hO hset hok hcl hzr hM hnl hcapM
        have hiz : (i : Int) < (M : Int) := by omega
        have hi0 : (0 : Int) ≤ (i : Int) := by omega
        have hin : ¬ (i : Int) < 0 := by omega
        unfold vec placeOf leastOf at HTi
        simp only at HTi
        go_wp2_with fail
        (with_reducible refine HTi.out.mono ?_)
        rintro _ wq ⟨rfl, hbq⟩
        have hqs := hbq.size
        obtain ⟨wz, hwz⟩ : ∃ wz, wz = wq.alloc (boxV z) := ⟨_, rfl⟩
        have hqz : Below wr.heap.size wr wz := by rw [hwz]; exact hbq.alloc hbq.size _
        have hzb : wz.heap[wq.heap.size]? = some (boxV z) := by rw [hwz]; exact heap_alloc_new _ _
        obtain ⟨c0, c1, c2, c3, _⟩ := cells4V hzb
        have HCz := Lib.hid (HCl.out.below hgs hqz)
        obtain ⟨la', lc', _, k1, k2, k3, k4, _, _, f1, f2, f3, f4, _, _, _⟩ := HCz.out.at0 HO.out
        have k2' : wz.cell? ⟨g, i * 6 + 1 + 1, none⟩ = _ := k2
        have k3' : wz.cell? ⟨g, i * 6 + 1 + 2, none⟩ = _ := k3
        have k4' : wz.cell? ⟨g, i * 6 + 1 + 3, none⟩ = _ := k4
        have f2' : wz.frozen? ⟨g, i * 6 + 1 + 1, none⟩ = false := f2
        have f3' : wz.frozen? ⟨g, i * 6 + 1 + 2, none⟩ = false := f3
        have f4' : wz.frozen? ⟨g, i * 6 + 1 + 3, none⟩ = false := f4
        obtain ⟨W5, hW5⟩ : ∃ W5, W5 = put4 g (i * 6 + 1) z wz := ⟨_, rfl⟩
        have hcl5 : LCells W2 W5 g 0 ((keptS ts X).set i { s with free := z }) := by rw [hW5]; exact HCz.out.store HO.out z HZr.out
        have hzs' := hqz.size
        have h5s : W5.heap.size = wz.heap.size := by rw [hW5, put4_size]
        have hb5 : Below B W2 W5 := by rw [hW5]; exact put4_below (hb.trans (hqz.mono (by have := hb.size; omega))) hgB
        have hown5 : W5.ownsRow w4.heap.size 9 1 u8 js.length (svals (nodesOf ls js)) := by rw [hW5]; exact own_put (own_more HOwn.out hqz) hgw4 z
        have hOset : ((keptS ts X).set i { s with free := z })[i]? = some { s with free := z } := List.getElem?_set_self (by rw [HM.out]; exact hiM)
        obtain ⟨_, _, n0, _⟩ := hcl5.at0 hOset
        have hown6 := own_more hown5 ((Below.refl W5.heap.size W5).alloc (Nat.le_refl _) (.cells #[.string s.node] 9))
        have hbase : w4.heap.size ≤ (W5.alloc (.cells #[.string s.node] 9)).heap.size := by rw [World.size_alloc]; omega
        have hlen8 : js.length + 1 ≤ maxLen ∧ (js.length + 1) * 16 ≤ 140737488355328 := by unfold maxLen; omega
        have HLen := Lib.hid hlen8
        have HOw := Lib.hid hown6
        have HC5 := Lib.hid hcl5
        have HB5 := Lib.hid hb5
        have HWz := Lib.hid hwz
        have HW5 := Lib.hid hW5
        have H5s := Lib.hid h5s
        unfold boxV at HWz
        unfold put4 at HW5
        clear HTi d0 d1 d2 d3 hlen8 hown6 hown5 hcl5 hb5 hwz hW5 hzb k2 k3 k4 f2 f3 f4 hOset h5s
        go_upto_region 8 with fail
        rw [← HWz.out]
        go_upto_region 11 with fail
        rw [← HW5.out]
        clear HW5 HWz k1 k2' k3' k4' f1 f2' f3' f4' c0 c1 c2 c3
        go_wp2_with (at_builtin; refine wpList_append_own _ rfl _ _ 28 rfl w4.heap.size 9 i0 (.string ByteArray.empty) 1 16 Try.underlying28 hi hz0 hz1 hz2 rfl (by decide) u8 js.length (svals (nodesOf ls js)) rfl HOw.out ⟨W5.heap.size, 0, none⟩ 1 1 [.string s.node] rfl rfl (new_one _ W5 _) (fun u hu => by simp at hu; rw [hu]; rfl) HLen.out.1 HLen.out.2 hbase ?_; intro v6 w6 hown6 hgr6 _)
        have hb6 : Below w4.heap.size (W5.alloc (.cells #[.string s.node] 9)) w6 := (Below.refl _ _).grown hgr6 hbase (fun k hk => (HOw.out.lt k hk).1)
        have h56 : Below w4.heap.size W5 w6 := ((Below.refl w4.heap.size W5).alloc (by have := H5s.out; omega) _).trans hb6
        have HC6 := Lib.hid (HC5.out.keep hgw4 h56)
        have hB6 : Below B W2 w6 := HB5.out.trans (h56.mono hB4)
        have hs6 := h56.size
        have hg6 : g < w6.heap.size := by have := H5s.out; omega
        have HOwn6 : Hid (w6.ownsRow w4.heap.size 9 1 v6 (js ++ [j]).length (svals (nodesOf ls (js ++ [j])))) := Lib.hid (by
          have hnode : ((ls[j]?).map Slot.node).getD ⟨#[]⟩ = s.node := by
            have := leftS_node d j js ls
            rw [← HX.out, HS.out] at this
            rw [← this]; rfl
          rw [nodesOf_snoc, hnode, svals_snoc, List.length_append]
          exact hown6)
        have HL6 : Hid (LRow W2 w6 B (.slice (some ⟨g, 0, none⟩) M lcap) (keptS ts (leftS d (js ++ [j]) ls))) := Lib.hid (by
          rw [leftS_snoc, ← HX.out, HSet.out]
          have hll : ((keptS ts X).set i { s with free := z }).length = M := by rw [List.length_set]; exact HM.out
          refine .inr ⟨fun hn => ?_, g, lcap, by rw [hll], hgB, hg6, by rw [hll]; exact HCap.out.1, HCap.out.2, HC6.out⟩
          rw [hn] at hll
          simp at hll
          omega)
        have HFit2 : Hid (fitL d (k + 1) (seenAll ts ls) = some (js ++ [j], seenAll ts (leftS d (js ++ [j]) ls))) := Lib.hid (by
          rw [HR2.out, leftS_snoc, ← HX.out, takeS_seen]; rfl)
        clear hown6 hgr6 hb6 h56 hbase n0 HR2 HOw
        go_wp2
        go_roundw
        case rel => exact ⟨k + 1, js ++ [j], by omega, by go_num, HFit2.out, by rw [List.length_append, hjl]; rfl, HL6.out, HOwn6.out, hB6, by have := H5s.out; omega⟩
        case measure => simp [intOf]; omega
    · have hltz : ¬ (k : Int) < n := fun h => hlt ((HNn k).1 h)
      obtain rfl : k = N := by omega
      have HE := Lib.hid hfit
      have hnl : (nodesOf ls js).length = js.length := by unfold nodesOf; simp
      have HS := Lib.hid (show SRow wr u8 (nodesOf ls js) from own_srow (by rw [hnl]; exact hown))
      clear hnl
      have hbF := H2.out.trans (hb.mono (by omega))
      clear hfit hown hlr
      go_wp2
      go_ret2
      rw [HE.out]
      exact ⟨⟨_, rfl, HS.out⟩, hbF⟩
end Go.Proofs.Ytbefnophkaepmaa.Pack
