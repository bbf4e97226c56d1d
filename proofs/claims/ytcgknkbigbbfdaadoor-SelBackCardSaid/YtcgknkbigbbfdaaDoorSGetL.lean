/- What sel.Get answers where a number of at most four terms stands: term by term. -/
import Derived.Test.YtcgknkbigbbfdaaDoorSGet
namespace Go.Proofs.YtcgknkbigbbfdaaDoor.Sel
open Go.RowKit Go.Proofs.YtcgknkbigbbfdaaDoor.Texts Go.Proofs.YtcgknkbigbbfdaaDoor.Word Go.Proofs.YtcgknkbigbbfdaaDoor.Forms Go.Proofs.YtcgknkbigbbfdaaDoor.Split Go.Proofs.YtcgknkbigbbfdaaDoor.Boxes

set_option maxHeartbeats 4000000 in
set_option maxRecDepth 100000 in
theorem get_few (s : ByteArray) (hs : s.size ≤ 9223372036854775807) (p : Int) (n : Nat) (q0 : Int) (hn : n ≤ 4) (w : World) (hE : Err w) (hgw : 0 < w.heap.size)
    (HN : Hid (∀ R W, Rd R s p W → Calls Tryd.prog 29 #[.pointer (some ⟨R, 0, none⟩), .int .u64 4] W (Took R s (.int .i64 (n : Int)) q0 W))) :
    Calls Tryd.prog 11 #[.string s, .int .i64 p] w (TellsG (readN (oneR s) n q0) w) := by
  obtain ⟨i0, hi, hz0, hz1, hz2⟩ := info_parts infoT
  have hmf : ∀ (fn : Fn) (first cap : Array Value) (w : World), (Instr.makeFunc fn first cap).run Tryd.prog w = .ok (.func fn first cap) w := fun _ _ _ _ => rfl
  have HE : Hid (∀ W, Below w.heap.size w W → Err W) := Lib.hid fun W h => hE.below h
  clear hE
  go_enter_defers Tryd.func11, Tryd.ntmps11
  go_wp2_with fail
  have hb0 := grows (grows (grows (grew w (.cells #[.slice none 0 0] 22)) (grew _ (.cells #[.int .i64 0] 3))) (grew _ (.cells #[.bool false] 4))) (grew _ (.cells #[.string s, .int .i64 p] 61))
  refine (HN.out _ _ (fresh3 w _ _ _ _)).mono ?_
  rintro e w1 ⟨rfl, hr1, hbut⟩
  have h0 := hbut.keep (keep (keep (keep (fresh w _) (old _ _)) (old _ _)) (old _ _)) (by omega)
  have h1 := hbut.keep (keep (keep (fresh1 w _ _) (old _ _)) (old _ _)) (by omega)
  have h2 := hbut.keep (keep (fresh2 w _ _ _) (old _ _)) (by omega)
  have hb : Below w.heap.size w w1 := hb0.trans (hbut.below (by omega) hb0.size)
  have hB1 : w.heap.size + 4 ≤ w1.heap.size := by have := lt_of hr1; omega
  have HM0 : Hid (Making w.heap.size (w.heap.size + 4) w1 (.slice none 0 0) []) := Lib.hid ⟨h0, World.ownsRow_nil _ _ _ _, fun x hx => by simp at hx⟩
  have H1 := Lib.hid h1
  have H2 := Lib.hid h2
  have HR1 := Lib.hid hr1
  have HB := Lib.hid hb
  clear h0 h1 h2 hb hr1 hbut hb0
  go_wp2_with fail
  go_loopw [13] (fun i wr => ∃ (j : Nat) (v : Value) (xs : List (Tm × Value)) (q : Int), j ≤ n ∧ i = .int .i64 j ∧ xs.length = j ∧ Forms.ahead (xs.map (·.1)) (readN (oneR s) (n - j) q) = readN (oneR s) n q0 ∧ Making w.heap.size (w.heap.size + 4) wr v xs ∧ wr.heap[w.heap.size + 1]? = some (.cells #[.int .i64 0] 3) ∧ wr.heap[w.heap.size + 2]? = some (.cells #[.bool false] 4) ∧
    Rd (w.heap.size + 3) s q wr ∧ w.heap.size + 4 ≤ wr.heap.size ∧ Below w.heap.size w wr) (fun i _ => n - (intOf i).toNat)
  case atStart => exact ⟨0, _, [], q0, Nat.zero_le _, rfl, rfl, ahead_nil _, HM0.out, H1.out, H2.out, HR1.out, hB1, HB.out⟩
  case round =>
    obtain ⟨j, v, xs, q, hj, rfl, hxl, hrd, hmk, h1, h2, hr, hBr, hb⟩ := hrel
    have HXL := Lib.hid hxl
    have HRD := Lib.hid hrd
    have HMK := Lib.hid hmk
    have HH1 := Lib.hid h1
    have HH2 := Lib.hid h2
    have HR := Lib.hid hr
    have hc0 := cell_at (i := 0) hmk.cell rfl
    have hlH := lt_of hmk.cell
    have hvf : ∃ va vn vc, v = .slice va vn vc := by
      rcases hmk.own.2 with ⟨h, _⟩ | ⟨g, cap, cur, h, _⟩
      · exact ⟨_, _, _, h⟩
      · exact ⟨_, _, _, h⟩
    obtain ⟨va, vn, vc, rfl⟩ := hvf
    by_cases hlt : j < n
    · have hltz : (j : Int) < (n : Int) := by omega
      cases hone : oneR s q with
      | some x =>
        obtain ⟨t, q'⟩ := x
        have HT : Hid (∀ W, Below wr.heap.size wr W → Calls Tryd.prog 30 #[.pointer (some ⟨w.heap.size + 3, 0, none⟩)] W (TookT (w.heap.size + 3) s (some (t, q')) W)) := Lib.hid fun W h => by
          rw [← hone]
          exact term_any _ s hs q W (HR.out.below h) (HE.out W (grows hb h)) (by omega)
        have HRD2 : Hid (Forms.ahead (xs.map (·.1) ++ [t]) (readN (oneR s) (n - (j + 1)) q') = readN (oneR s) n q0) := Lib.hid (by rw [← HRD.out, show n - j = (n - (j + 1)) + 1 by omega, readN_go hone])
        have HOw := Lib.hid hmk.own
        have HMax : Hid (xs.length + 1 ≤ maxLen ∧ (xs.length + 1) * 48 ≤ 140737488355328) := Lib.hid (by have := HXL.out; unfold maxLen; omega)
        have HKeep : Hid (∀ W, But (w.heap.size + 3) wr W → W.cell? ⟨w.heap.size, 0, none⟩ = some (.slice va vn vc) ∧ W.frozen? ⟨w.heap.size, 0, none⟩ = false) := Lib.hid fun W h => ⟨cell_at (i := 0) (h.keep hmk.cell (by omega)) rfl, frozen_at (i := 0) (h.keep hmk.cell (by omega))⟩
        have HKeep4 : Hid (∀ W W' o, But (w.heap.size + 3) wr W → (W.alloc o).grownBy W' (Value.slice va vn vc).ownBlock → W'.cell? ⟨w.heap.size, 0, none⟩ = some (.slice va vn vc) ∧ W'.frozen? ⟨w.heap.size, 0, none⟩ = false) := Lib.hid fun W W' o h hg => by
          have h4 := after (h.keep hmk.cell (by omega)) hg (fun e => by have := hmk.own.lt _ e; omega)
          exact ⟨cell_at (i := 0) h4 rfl, frozen_at (i := 0) h4⟩
        obtain ⟨_, hf1⟩ := HKeep.out wr (But.refl _ _)
        clear hone hmk h1 h2 hr hrd hxl
        obtain ⟨tk, tn, tv⟩ := t
        go_wp2_with fail
        first | (go_region_law (first
          | (refine step_append_lies _ rfl _ _ 22 rfl (w.heap.size + 4) 51 i0 (.agg #[.string ByteArray.empty, .bool false, .slice none 0 0]) 3 48 Tryd.underlying22 hi hz0 hz1 hz2 rfl (by decide) (.slice va vn vc) xs.length (tvals xs) rfl (own_below (But.own HOw.out hb3.out (by omega)) (old w3 _)) ⟨w3.heap.size, 0, none⟩ 1 1 [.string tk, .bool tn, .slice sa tv.length sc] rfl rfl (new3 w3 _ _ _ _) (one3 _ _ _ _ _) (by decide) HMax.out.1 HMax.out.2 (by rw [size_alloc]; have := hb3.out.size; omega) (w3.heap.size + 1) (size_alloc _ _) ?_; intro g4 cap4 w4 hown4 hgrow4 hat4 _; have HOwn4 := Lib.hid hown4; have HGrow4 := Lib.hid hgrow4; have HAt4 := Lib.hid hat4; obtain ⟨e4, f4⟩ := HKeep4.out w3 w4 _ hb3.out hgrow4; clear hown4 hgrow4 hat4)
          | (go_simp; go_at_call 30; (with_reducible refine (HT.out _ ((Below.refl _ wr).drew)).mono ?_); rintro e w3 ⟨⟨v3, rfl, s3, rfl, hs3⟩, hr3, hb30⟩; obtain ⟨sa, sc, rfl, _, _⟩ := hs3.1.slice; have hb3 : Hid (But (w.heap.size + 3) wr w3) := Lib.hid ((But.of_below ((Below.refl _ wr).drew)).trans hb30); have HS3 : Hid (SNew wr.heap.size w3 (.slice sa tv.length sc) tv) := Lib.hid hs3; have HR3 := Lib.hid hr3; obtain ⟨e3, f3⟩ := HKeep.out w3 hb3.out; obtain ⟨e3a, f3a⟩ := HKeep.out (w3.alloc (.cells #[.string tk, .bool tn, .slice sa tv.length sc] 51)) (hb3.out.trans (But.of_below (old _ _))); clear hb30 hs3 hr3))) | fail
        all_goals
          go_wp2
          go_roundw
          case rel =>
            obtain ⟨hm5, hk5, hsz5, _⟩ := Making.step (q := fun k => k ≠ w.heap.size + 3) (by omega) HMK.out (by omega) (fun _ _ => by omega) hBr hb3.out.size (fun k hk hq => hb3.out.block k hk hq) (t := (tk, tn, tv)) HS3.out HOwn4.out HGrow4.out HAt4.out
            have hvo : ∀ k, (Value.slice va vn vc).ownBlock = some k → w.heap.size + 4 ≤ k := fun k hk => (HMK.out.own.lt k hk).1
            have hR5 := after HR3.out HGrow4.out (fun e => by have := hvo _ e; omega)
            refine ⟨j + 1, _, _, q', by omega, by go_num, ?_, ?_, hm5, ?_, ?_, ?_, ?_, ?_⟩
            · rw [List.length_append, HXL.out]; rfl
            · rw [List.map_append]; exact HRD2.out
            · exact (hk5 _ (by omega) (by omega) (by omega) (fun e => by have := hvo _ e; omega)).trans HH1.out
            · exact (hk5 _ (by omega) (by omega) (by omega) (fun e => by have := hvo _ e; omega)).trans HH2.out
            · exact (heap_setCell_other _ _ _ _ (by simp)).trans hR5
            · simp; omega
            · have b3 := hb.trans (hb3.out.below (B := w.heap.size) (by omega) (by omega))
              exact ((b3.alloc b3.size _).grown HGrow4.out (by rw [size_alloc]; have := b3.size; omega) (fun k hk => by have := hvo k hk; omega)).setCell (Nat.le_refl _) _
          case measure => simp [intOf]; omega
      | none =>
        have HT : Hid (∀ W, Below wr.heap.size wr W → Calls Tryd.prog 30 #[.pointer (some ⟨w.heap.size + 3, 0, none⟩)] W (TookT (w.heap.size + 3) s none W)) := Lib.hid fun W h => by
          rw [← hone]
          exact term_any _ s hs q W (HR.out.below h) (HE.out W (grows hb h)) (by omega)
        have HNo : Hid (readN (oneR s) n q0 = none) := Lib.hid (by rw [← HRD.out, show n - j = (n - (j + 1)) + 1 by omega, readN_stop hone])
        clear hone hmk h1 h2 hr hrd hxl
        go_wp2_with fail
        first | go_region_dies | fail
        all_goals
          with_reducible refine (HT.out _ ((Below.refl _ wr).drew)).mono ?_
          rintro e w3 ⟨⟨T3, p3, rfl⟩, hb30⟩
          have hb3 := (But.of_below (R := w.heap.size + 3) ((Below.refl _ wr).drew)).trans hb30
          clear hb30
          have k0 := hb3.keep HMK.out.cell (by omega)
          have k1 := hb3.keep HH1.out (by omega)
          have k2 := hb3.keep HH2.out (by omega)
          go_wp2
          refine leaves_cons (f := 28) (args := #[.pointer (some ⟨w.heap.size, 0, none⟩), .pointer (some ⟨w.heap.size + 1, 0, none⟩), .pointer (some ⟨w.heap.size + 2, 0, none⟩)]) (by simp) (by simp [go_sem]) ?_
          refine (get_catch w.heap.size _ _ _ p3 T3 [] _ k0 k1 k2).mono ?_
          rintro e u' w2 ⟨rfl, rfl, rfl⟩
          obtain ⟨d0, d1, d2, hbz⟩ := fallen3 (hb.trans (hb3.below (by omega) (by omega))) k0 k1 k2 (.slice none 0 0) 0 false
          rw [HNo.out]
          simp [Leaves, settle, results, Tryd.results11, go_sem, d0, d1, d2]
          exact ⟨rfl, hbz⟩
    · have hltz : ¬ ((j : Int) < (n : Int)) := by omega
      have hjn : j = n := by omega
      have hf0 := frozen_at (i := 0) hmk.cell
      have cR := cell_at (i := 1) hr rfl
      have c1 := cell_at (i := 0) h1 rfl
      have f1 := frozen_at (i := 0) h1
      have c2 := cell_at (i := 0) h2 rfl
      have f2 := frozen_at (i := 0) h2
      have HFin : Hid (readN (oneR s) n q0 = some (xs.map (·.1), q)) := Lib.hid (by
        rw [← HRD.out, hjn, Nat.sub_self]
        simp [readN, Forms.ahead])
      have HD := Lib.hid (fallen3 (w := wr) hb hmk.cell h1 h2 (.slice va vn vc) q true)
      have HTR : Hid (TRow (((wr.drew.setCell ⟨w.heap.size, 0, none⟩ (.slice va vn vc)).setCell ⟨w.heap.size + 1, 0, none⟩ (.int .i64 q)).setCell ⟨w.heap.size + 2, 0, none⟩ (.bool true)) (.slice va vn vc) (xs.map (·.1))) := Lib.hid (own_trow (ownsRow_setCell_below (ownsRow_setCell_below (ownsRow_setCell_below (w := wr.drew) HMK.out.own (by simp) _) (by simp) _) (by simp) _) fun x hx => ((HMK.out.terms x hx).kept (w' := ((wr.drew.setCell ⟨w.heap.size, 0, none⟩ (.slice va vn vc)).setCell ⟨w.heap.size + 1, 0, none⟩ (.int .i64 q)).setCell ⟨w.heap.size + 2, 0, none⟩ (.bool true)) (q := fun _ => True) (by simp) fun g hg _ => ⟨by
        have := hg.1
        rw [heap_setCell_other _ _ _ _ (by simp; omega), heap_setCell_other _ _ _ _ (by simp; omega), heap_setCell_other _ _ _ _ (by simp; omega)]
        rfl, trivial⟩).1)
      clear hmk h1 h2 hr hrd hxl
      go_wp2_with fail
      first | go_region | fail
      go_wp2
      refine leaves_cons (f := 28) (args := #[.pointer (some ⟨w.heap.size, 0, none⟩), .pointer (some ⟨w.heap.size + 1, 0, none⟩), .pointer (some ⟨w.heap.size + 2, 0, none⟩)]) (by simp) (by simp [go_sem]) ?_
      refine (get_idle _ _ _ _).mono ?_
      rintro e u' w2 ⟨rfl, rfl, rfl⟩
      obtain ⟨d0, d1, d2, hbz⟩ := HD.out
      rw [HFin.out]
      simp [Leaves, settle, results, Tryd.results11, go_sem, d0, d1, d2]
      exact ⟨⟨_, rfl, HTR.out⟩, hbz.drew⟩

/-- What is got, in one form: what the document's Get tells. -/
theorem get_any (s : ByteArray) (hs : s.size ≤ 9223372036854775807) (p : Int) (w : World) (hE : Err w) : Calls Tryd.prog 11 #[.string s, .int .i64 p] w (TellsG (getS s p) w) := by
  have hgw : 0 < w.heap.size := by
    obtain ⟨T, x, h⟩ := hE
    exact World.block_lt_of_cell? w ⟨0, 0, none⟩ h
  unfold getS
  cases h : Wire.getV s.data.toList p with
  | none => exact get_bare s p w hE (Lib.hid fun R W hr hE => number_none R s hs p 4 h W hr hE)
  | some a =>
    simp only
    by_cases h4 : 4 < a.1
    · rw [if_pos h4]
      exact get_bare s p w hE (Lib.hid fun R W hr hE => number_great R s hs p 4 a.1 a.2 h h4 W hr hE)
    · rw [if_neg h4, keep_all (by omega)]
      exact get_few s hs p a.1 a.2 (by omega) w hE hgw (Lib.hid fun R W hr => number_yes R s hs p 4 a.1 a.2 h (by omega) (by omega) W hr)
end Go.Proofs.YtcgknkbigbbfdaaDoor.Sel
