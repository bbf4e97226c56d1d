/- What sel.reader's term takes: the right term that stands there, or it leaves by a panic; of memory the reader's place alone turns. -/
import Derived.Test.YtcgknkbigbbfdaaDoorSTake
import Derived.RegionDies
namespace Go.Proofs.YtcgknkbigbbfdaaDoor.Sel
open Go.RowKit Go.Proofs.YtcgknkbigbbfdaaDoor.Texts Go.Proofs.YtcgknkbigbbfdaaDoor.Word Go.Proofs.YtcgknkbigbbfdaaDoor.Forms Go.Proofs.YtcgknkbigbbfdaaDoor.Split Go.Proofs.YtcgknkbigbbfdaaDoor.Boxes

/-- What the values tell of a term whose key and number are read. -/
def valued (k : ByteArray) (b : Bool) (r : Option (List ByteArray × Int)) : Option (Tm × Int) := match r with
  | none => none
  | some vs => if rightT (k, b, vs.1) = true then some ((k, b, vs.1), vs.2) else none
set_option maxHeartbeats 4000000 in
set_option maxRecDepth 100000 in
theorem term_c (R : Nat) (s : ByteArray) (hs : s.size ≤ 9223372036854775807) (p : Int) (k : ByteArray) (q1 : Int) (n m : Nat) (b : Bool) (q2 : Int) (hn : n ≤ 9) (hb0 : b = decide (n % 2 = 1)) (hm0 : m = n / 2) (h : oneText s p = some (k, q1)) (w : World) (hr : Rd R s p w) (hE : Err w) (hgR : 0 ≠ R)
    (HN : Hid (∀ W, Rd R s q1 W → Calls Tryd.prog 29 #[.pointer (some ⟨R, 0, none⟩), .int .u64 9] W (Took R s (.int .i64 (n : Int)) q2 W))) :
    Calls Tryd.prog 30 #[.pointer (some ⟨R, 0, none⟩)] w (TookT R s (valued k b (readN (oneText s) m q2)) w) := by
  obtain ⟨i0, hi, hz0, hz1, hz2⟩ := info_parts infoS
  have HT : Hid (∀ W, Below w.heap.size w W → Calls Tryd.prog 53 #[.pointer (some ⟨R, 0, none⟩)] W (Took R s (.string k) q1 W)) := Lib.hid fun W hb => take_yes R s hs p k q1 h W (hr.below hb)
  have HE : Hid (∀ W, But R w W → Err W) := Lib.hid fun W h => hE.but h hgR
  have hRw := lt_of hr
  have hrem : ((n : Int) % 2 == 1) = b := by rw [hb0, Bool.eq_iff_iff, beq_iff_eq, decide_eq_true_eq]; omega
  have hquo : (n : Int) / 2 = (m : Int) := by omega
  have hm4 : m ≤ 4 := by omega
  clear h hr hE hb0 hm0
  go_enter Tryd.func30, Tryd.ntmps30
  go_wp2_with fail
  with_reducible refine (HT.out _ (grew w _)).mono ?_
  rintro e w1 ⟨rfl, hr1, hb1⟩
  have HR1 := Lib.hid hr1
  have hsz1 := hb1.size
  rw [size_alloc] at hsz1
  have hA1 := hb1.keep (fresh w _) (by omega)
  clear hr1
  go_wp2_with fail
  with_reducible refine (HN.out _ (HR1.out.below (old w1 _))).mono ?_
  rintro e w3 ⟨rfl, hr3, hb3⟩
  have hT3 := hb3.keep (fresh w1 _) (by omega)
  have hA3 := hb3.keep (keep hA1 (old w1 _)) (by omega)
  have hsz3 := hb3.size
  rw [size_alloc] at hsz3
  have c1 := cell_at (i := 1) hT3 rfl
  have f1 := frozen_at (i := 1) hT3
  have HB3 : Hid (But R w (w3.setCell ⟨w1.heap.size, 1, none⟩ (.bool b))) := Lib.hid (((((But.of_below (grew w _)).trans hb1).trans (But.of_below (old w1 _))).trans hb3).more ((Below.refl _ _).setCell (by show w.heap.size ≤ w1.heap.size; omega) _))
  have HT4 : Hid ((w3.setCell ⟨w1.heap.size, 1, none⟩ (.bool b)).heap[w1.heap.size]? = some (.cells #[.string k, .bool b, .slice none 0 0] 51)) := Lib.hid (heap_setCell_same _ _ 1 _ _ (.bool b) hT3)
  have HA4 := Lib.hid ((heap_setCell_other w3 ⟨w1.heap.size, 1, none⟩ w.heap.size (.bool b) (by simp; omega)).trans hA3)
  have HR4 : Hid (Rd R s q2 (w3.setCell ⟨w1.heap.size, 1, none⟩ (.bool b))) := Lib.hid ((heap_setCell_other w3 ⟨w1.heap.size, 1, none⟩ R (.bool b) (by simp; omega)).trans hr3)
  have hS4 : w1.heap.size + 1 ≤ (w3.setCell ⟨w1.heap.size, 1, none⟩ (.bool b)).heap.size := by simpa using hsz3
  obtain ⟨T, hTe⟩ : ∃ T, T = w1.heap.size := ⟨_, rfl⟩
  have hHT : w.heap.size < T := by omega
  clear hr3 hb3 hT3 hA3 hA1 hb1
  go_wp2_with fail
  go_loopw [16] (fun i wr => ∃ (j : Nat) (done : List ByteArray) (q : Int) (v : Value), j ≤ m ∧ i = .int .i64 j ∧ done.length = j ∧ Forms.ahead done (readN (oneText s) (m - j) q) = readN (oneText s) m q2 ∧ Rd R s q wr ∧ wr.heap[w1.heap.size]? = some (.cells #[.string k, .bool b, v] 51) ∧
    wr.heap[w.heap.size]? = some (.cells #[.string ⟨#[]⟩, .bool false, .slice none 0 0] 51) ∧ wr.ownsRow (w1.heap.size + 1) 9 1 v j (svals done) ∧ But R w wr ∧ w1.heap.size + 1 ≤ wr.heap.size) (fun i _ => m - (intOf i).toNat)
  case atStart => exact ⟨0, [], q2, _, Nat.zero_le _, rfl, rfl, ahead_nil _, HR4.out, HT4.out, HA4.out, World.ownsRow_nil _ _ _ _, HB3.out, hS4⟩
  case round =>
    obtain ⟨j, done, q, v, hj, rfl, hdl, hrd, hr, ht, ha, hown, hb, hBr⟩ := hrel
    have HD := Lib.hid hdl
    have HRD := Lib.hid hrd
    have HR := Lib.hid hr
    have HTT := Lib.hid ht
    have HA := Lib.hid ha
    have HOw := Lib.hid hown
    have hvf : ∃ va vn vc, v = .slice va vn vc := by
      rcases hown.2 with ⟨h, _⟩ | ⟨g, cap, cur, h, _⟩
      · exact ⟨_, _, _, h⟩
      · exact ⟨_, _, _, h⟩
    obtain ⟨va, vn, vc, rfl⟩ := hvf
    obtain ⟨c0, c1, c2, f0, f1, f2⟩ := cells3 ht
    have hltT := lt_of ht
    by_cases hlt : j < m
    · have hltz : (j : Int) < (m : Int) := by omega
      cases hone : oneText s q with
      | some x =>
        obtain ⟨x, q'⟩ := x
        have HX : Hid (∀ W, Below wr.heap.size wr W → Calls Tryd.prog 53 #[.pointer (some ⟨R, 0, none⟩)] W (Took R s (.string x) q' W)) := Lib.hid fun W h => take_yes R s hs q x q' hone W (HR.out.below h)
        have HRD2 : Hid (Forms.ahead (done ++ [x]) (readN (oneText s) (m - (j + 1)) q') = readN (oneText s) m q2) := Lib.hid (by rw [← HRD.out, show m - j = (m - (j + 1)) + 1 by omega, readN_go hone])
        have HMax : Hid (j + 1 ≤ maxLen ∧ (j + 1) * 16 ≤ 140737488355328) := Lib.hid (by unfold maxLen; omega)
        have HKeep : Hid (∀ W, But R wr W → W.cell? ⟨w1.heap.size, 2, none⟩ = some (.slice va vn vc) ∧ W.frozen? ⟨w1.heap.size, 2, none⟩ = false) := Lib.hid fun W h => ⟨cell_at (i := 2) (h.keep ht (by omega)) rfl, frozen_at (i := 2) (h.keep ht (by omega))⟩
        have HKeep4 : Hid (∀ W W' o, But R wr W → (W.alloc o).grownBy W' (Value.slice va vn vc).ownBlock → W'.cell? ⟨w1.heap.size, 2, none⟩ = some (.slice va vn vc) ∧ W'.frozen? ⟨w1.heap.size, 2, none⟩ = false) := Lib.hid fun W W' o h hg => by
          have h3 := keep (h.keep ht (by omega)) (old W o)
          have h4 : W'.heap[w1.heap.size]? = some (.cells #[.string k, .bool b, .slice va vn vc] 51) := (hg.block _ (lt_of h3) (fun e => by have := HOw.out.lt _ e.symm; omega)).trans h3
          exact ⟨cell_at (i := 2) h4 rfl, frozen_at (i := 2) h4⟩
        clear hdl hrd hr ht ha hown hone
        go_wp2_with fail
        go_region_law (first
          | (refine step_append_lies _ rfl _ _ 49 rfl (w1.heap.size + 1) 9 i0 (.string ByteArray.empty) 1 16 Tryd.underlying49 hi hz0 hz1 hz2 rfl (by decide) (.slice va vn vc) j (svals done) rfl (own_below (But.own HOw.out hb3.out (by omega)) (old w4 _)) ⟨w4.heap.size, 0, none⟩ 1 1 [.string x] rfl rfl (cell_one_new w4 _ _) (fun u hu => by simp at hu; subst hu; rfl) (by decide) HMax.out.1 HMax.out.2 (by rw [size_alloc]; have := hb3.out.size; omega) (w4.heap.size + 1) (size_alloc _ _) ?_; intro g5 cap5 w5 hown5 hgrow5 _ _; have HOwn5 := Lib.hid hown5; have HGrow5 := Lib.hid hgrow5; obtain ⟨e5, f5⟩ := HKeep4.out w4 w5 _ hb3.out hgrow5; clear hown5 hgrow5)
          | (go_simp; go_at_call 53; (with_reducible refine (HX.out _ ((Below.refl _ wr).drew)).mono ?_); rintro e w4 ⟨rfl, hr4, hb30⟩; have hb3 : Hid (But R wr w4) := Lib.hid ((But.of_below ((Below.refl _ wr).drew)).trans hb30); have HR4' := Lib.hid hr4; obtain ⟨e3, f3⟩ := HKeep.out w4 hb3.out; obtain ⟨e3a, f3a⟩ := HKeep.out (w4.alloc (.cells #[.string x] 9)) (hb3.out.trans (But.of_below (old _ _))); clear hb30 hr4))
        all_goals
          go_wp2
          go_roundw
          case rel =>
            have hvo : ∀ g, (Value.slice va vn vc).ownBlock = some g → w1.heap.size + 1 ≤ g := fun g hg => (HOw.out.lt g hg).1
            have hR5 := after HR4'.out HGrow5.out (fun e => by have := hvo _ e; omega)
            have hT5 := after (hb3.out.keep HTT.out (by omega)) HGrow5.out (fun e => by have := hvo _ e; omega)
            have hA5 := after (hb3.out.keep HA.out (by omega)) HGrow5.out (fun e => by have := hvo _ e; omega)
            have h4s := hb3.out.size
            have h5s := HGrow5.out.size
            rw [size_alloc] at h5s
            refine ⟨j + 1, done ++ [x], q', _, by omega, by go_num, by rw [List.length_append, HD.out]; rfl, HRD2.out, (heap_setCell_other _ _ _ _ (by simp; omega)).trans hR5, heap_setCell_same _ _ 2 _ _ _ hT5, (heap_setCell_other _ _ _ _ (by simp; omega)).trans hA5, ?_, ?_, ?_⟩
            · rw [svals_snoc]
              exact ownsRow_setCell_below HOwn5.out (by simp) _
            · have h6 := hb.trans hb3.out
              exact h6.more ((((Below.refl _ _).alloc h6.size _).grown HGrow5.out (by rw [size_alloc]; have := h6.size; omega) (fun g hg => by have := hvo g hg; omega)).setCell (by simp; omega) _)
            · simp; omega
          case measure => simp [intOf]; omega
      | none =>
        have HX : Hid (∀ W, Below wr.heap.size wr W → Calls Tryd.prog 53 #[.pointer (some ⟨R, 0, none⟩)] W fun e w' => Falls e ∧ Below W.heap.size W w') := Lib.hid fun W h => take_no R s hs q hone W (HR.out.below h) (HE.out W (hb.trans (But.of_below h)))
        have HNo : Hid (readN (oneText s) m q2 = none) := Lib.hid (by rw [← HRD.out, show m - j = (m - (j + 1)) + 1 by omega, readN_stop hone])
        clear hdl hrd hr ht ha hown hone
        go_wp2_with fail
        go_region_dies
        all_goals
          with_reducible refine (HX.out _ ((Below.refl _ wr).drew)).mono ?_
          rintro e w4 ⟨⟨T3, p3, rfl⟩, hb30⟩
          go_wp2
          rw [HNo.out]
          exact ⟨rfl, ⟨T3, p3, rfl⟩, hb.trans (But.of_below (grows ((Below.refl _ wr).drew) hb30))⟩
    · have hltz : ¬ ((j : Int) < (m : Int)) := by omega
      have hjm : j = m := by omega
      have hsr : SRow wr (.slice va vn vc) done := own_srow (T := 9) (by rw [hdl]; exact hown)
      have hsn : SNew (w1.heap.size + 1) wr (.slice va vn vc) done := ⟨hsr, fun g o n c e hn => by
        cases va with
        | none => cases e
        | some a =>
          injection e with e1 _ _
          injection e1 with e1
          subst e1
          exact (HOw.out.lt g rfl).1⟩
      have hvn : vn = done.length := by
        obtain ⟨a, cap, e, _⟩ := hsr.slice
        injection e
      subst hvn
      have HFin : Hid (readN (oneText s) m q2 = some (done, q)) := Lib.hid (by
        rw [← HRD.out, hjm, Nat.sub_self]
        simp [readN, Forms.ahead])
      have HSN := Lib.hid hsn
      cases hrt : rightT (k, b, done) with
      | true =>
        have HS : Hid (Calls Tryd.prog 54 #[.agg #[.string k, .bool b, .slice va done.length vc]] wr fun e w' => e = .returned (.agg #[.string k, .bool b, .slice va done.length vc]) ∧ Below wr.heap.size wr w') := Lib.hid (sure_yes k b va vc done wr hsr (by omega) hrt)
        have HV : Hid (valued k b (readN (oneText s) m q2) = some ((k, b, done), q)) := Lib.hid (by rw [HFin.out]; simp [valued, hrt])
        clear hdl hrd hr ht ha hown hsr hsn hrt
        go_wp2_with fail
        with_reducible refine HS.out.mono ?_
        rintro e w4 ⟨rfl, hb4⟩
        have hA4 := keep HA.out hb4
        obtain ⟨d0, d1, d2, g0, g1, g2⟩ := cells3 hA4
        obtain ⟨e0, e1, e2, _⟩ := cells3 (set3_box hA4 (.string k) (.bool b) (.slice va done.length vc))
        have HZ : Hid (But w.heap.size w4 (set3 w.heap.size (.string k) (.bool b) (.slice va done.length vc) w4)) := Lib.hid ((((But.refl _ _).set 0 _).set 1 _).set 2 _)
        have HZ2 : Hid (But R w (set3 w.heap.size (.string k) (.bool b) (.slice va done.length vc) w4)) := Lib.hid ((hb.trans (But.of_below hb4)).more (set3_below (Below.refl _ _) (Nat.le_refl _)))
        unfold set3 at e0 e1 e2 HZ HZ2
        clear hA4
        go_wp2
        refine bodyPost_ret (v := .agg #[.string k, .bool b, .slice va done.length vc]) (by simp [results, Tryd.results30, go_sem, e0, e1, e2]) rfl ?_
        rw [HV.out]
        exact ⟨⟨_, rfl, _, rfl, ((HSN.out.below hb4).but HZ.out (by omega)).mono (by omega)⟩, HZ.out.keep (HR.out.below hb4) (by omega), HZ2.out⟩
      | false =>
        have HS : Hid (Calls Tryd.prog 54 #[.agg #[.string k, .bool b, .slice va done.length vc]] wr fun e w' => Falls e ∧ Below wr.heap.size wr w') := Lib.hid (sure_no k b va vc done wr hsr (by omega) hrt (HE.out wr hb))
        have HV : Hid (valued k b (readN (oneText s) m q2) = none) := Lib.hid (by rw [HFin.out]; simp [valued, hrt])
        clear hdl hrd hr ht ha hown hsr hsn hrt
        go_wp2_with fail
        with_reducible refine HS.out.mono ?_
        rintro e w4 ⟨⟨T3, p3, rfl⟩, hb4⟩
        go_wp2
        rw [HV.out]
        exact ⟨rfl, ⟨T3, p3, rfl⟩, hb.trans (But.of_below hb4)⟩

theorem oneR_none {s : ByteArray} {p : Int} (h : oneText s p = none) : oneR s p = none := by unfold oneR oneT; rw [h]
theorem oneR_bare {s : ByteArray} {p : Int} {k : ByteArray × Int} (h : oneText s p = some k) (h2 : Wire.getV s.data.toList k.2 = none) : oneR s p = none := by unfold oneR oneT; rw [h]; simp only; rw [h2]
theorem oneR_great {s : ByteArray} {p : Int} {k : ByteArray × Int} {n : Nat × Nat} (h : oneText s p = some k) (h2 : Wire.getV s.data.toList k.2 = some n) (h9 : 9 < n.1) : oneR s p = none := by unfold oneR oneT; rw [h]; simp only; rw [h2]; simp only; rw [if_pos h9]
theorem oneR_full {s : ByteArray} {p : Int} {k : ByteArray × Int} {n : Nat × Nat} (h : oneText s p = some k) (h2 : Wire.getV s.data.toList k.2 = some n) (h9 : ¬ 9 < n.1) : oneR s p = valued k.1 (decide (n.1 % 2 = 1)) (readN (oneText s) (n.1 / 2) (n.2 : Int)) := by
  unfold oneR oneT
  rw [h]
  simp only
  rw [h2]
  simp only
  rw [if_neg h9]
  cases readN (oneText s) (n.1 / 2) (n.2 : Int) with
  | none => rfl
  | some vs => rfl
/-- What is taken as a term, in one form. -/
theorem term_any (R : Nat) (s : ByteArray) (hs : s.size ≤ 9223372036854775807) (p : Int) (w : World) (hr : Rd R s p w) (hE : Err w) (hgR : 0 ≠ R) :
    Calls Tryd.prog 30 #[.pointer (some ⟨R, 0, none⟩)] w (TookT R s (oneR s p) w) := by
  cases h : oneText s p with
  | none => rw [oneR_none h]; exact term_a R s hs p h w hr hE
  | some k =>
    cases h2 : Wire.getV s.data.toList k.2 with
    | none => rw [oneR_bare h h2]; exact term_b R s hs p k.1 k.2 h w hr hE hgR (Lib.hid fun W hr hE => number_none R s hs k.2 9 h2 W hr hE)
    | some n =>
      by_cases h9 : 9 < n.1
      · rw [oneR_great h h2 h9]; exact term_b R s hs p k.1 k.2 h w hr hE hgR (Lib.hid fun W hr hE => number_great R s hs k.2 9 n.1 n.2 h2 h9 W hr hE)
      · rw [oneR_full h h2 h9]; exact term_c R s hs p k.1 k.2 n.1 _ _ n.2 (by omega) rfl rfl h w hr hE hgR (Lib.hid fun W hr => number_yes R s hs k.2 9 n.1 n.2 h2 (by omega) (by omega) W hr)
end Go.Proofs.YtcgknkbigbbfdaaDoor.Sel
