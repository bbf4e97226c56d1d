/- PackTells: of any slots, selector, demand, number all is told as the chapter says: the walk, over what the calls say. -/
import Derived.Test.YtbefnophkaepmaaPJ2
namespace Go.Proofs.Ytbefnophkaepmaa.Pack
open Go.RowKit Go.Proofs.Ytbefnophkaepmaa.Label Go.Proofs.Ytbefnophkaepmaa.Sel Go.Proofs.Ytbefnophkaepmaa.Vec Go.Proofs.Ytbefnophkaepmaa.Texts

/-- A demand in memory. -/
def boxV (x : Nat → Int) : Obj := .cells #[.int .u64 (x 0), .int .u64 (x 1), .int .u64 (x 2), .int .u64 (x 3)] 26
theorem one_boxV (w : World) (x : Nat → Int) {w' : World} (h : Below (w.alloc (boxV x)).heap.size (w.alloc (boxV x)) w') :
    w'.cell? ⟨w.heap.size, 0, none⟩ = some (.int .u64 (x 0)) ∧ w'.cell? ⟨w.heap.size, 1, none⟩ = some (.int .u64 (x 1)) ∧ w'.cell? ⟨w.heap.size, 2, none⟩ = some (.int .u64 (x 2)) ∧ w'.cell? ⟨w.heap.size, 3, none⟩ = some (.int .u64 (x 3)) := by
  have e : w'.heap[w.heap.size]? = some (boxV x) := by rw [h.block _ (by simp)]; exact heap_alloc_new _ _
  exact ⟨cell_at e rfl, cell_at e rfl, cell_at e rfl, cell_at e rfl⟩
theorem refS_any' (v : Value) (ls : List Tm) (w : World) (hv : TRow w v ls) (hl : ls.length ≤ 2932031007401) :
    Calls Try.prog 13 #[v] w fun e w' => (∃ u, e = .returned u ∧ TRow w' u ls) ∧ Below w.heap.size w w' := refS_any v ls w hv hl

/-- What a fit names. -/
def rowsOf (ls : List Slot) (r : Option (List Nat × List Sl)) : List ByteArray := match r with
  | none => []
  | some p => nodesOf ls p.1
theorem fitTold_open {ls : List Slot} {r : Option (List Nat × List Sl)} {e : Ending} {w : World} (h : FitTold ls r e w) : ∃ o, e = .returned (.tuple #[o, .bool r.isSome]) ∧ SRow w o (rowsOf ls r) := by
  cases r with
  | none => exact ⟨_, h, SRow.nil w⟩
  | some p => obtain ⟨o, h1, h2⟩ := h; exact ⟨o, h1, h2⟩

set_option maxHeartbeats 8000000 in
set_option maxRecDepth 100000 in
theorem packTells_any (S : Says) (v u : Value) (ls : List Slot) (ts : List Tm) (d : Nat → Int) (n : Int) (w : World) (hv : SlRow w v ls) (hu : TRow w u ts) (hf : Sel.Fair ts) (ht : ts.length ≤ 2932031007401) (hd : InRange d) (hz : ls.length * 72 ≤ 140737488355328) (hn : -9223372036854775808 ≤ n ∧ n ≤ 9223372036854775807) :
    Calls Try.prog 3 #[v, u, vec (d 0) (d 1) (d 2) (d 3), .int .i64 n] w fun e w' => e = .returned (.bool true) ∧ Below w.heap.size w w' := by
  obtain ⟨W, hW⟩ : ∃ W, W = w.alloc (boxV d) := ⟨_, rfl⟩
  have hwW : Below w.heap.size w W := by rw [hW]; exact (Below.refl _ _).alloc (Nat.le_refl _) _
  have HB := Lib.hid (fun w' (h : Below W.heap.size W w') => one_boxV w d (w' := w') (by rw [hW] at h; exact h))
  have HV := Lib.hid (fun w' (h : Below W.heap.size W w') => (hv.below hwW).below h)
  have HU := Lib.hid (fun w' (h : Below W.heap.size W w') => (hu.below hwW).below h)
  have HX := Lib.hid (examples_any S W)
  obtain ⟨r, hr⟩ : ∃ r, fitX d n (seenAll ts ls) = r := ⟨_, rfl⟩
  obtain ⟨m, hm⟩ : ∃ m, roomN d n.toNat (seenAll ts ls) = m := ⟨_, rfl⟩
  have CFit := Lib.hid (fun w' (h : Below W.heap.size W w') => (by have := S.fit v u ls ts d n w' (HV.out w' h) (HU.out w' h) hf hd hz hn; rw [hr] at this; exact this : Calls Try.prog 10 #[v, u, vec (d 0) (d 1) (d 2) (d 3), .int .i64 n] w' fun e w'' => FitTold ls r e w'' ∧ Below w'.heap.size w' w''))
  have CRoom := Lib.hid (fun w' (h : Below W.heap.size W w') => (by have := S.room v u ls ts d n w' (HV.out w' h) (HU.out w' h) hf hd hz hn; rw [hm] at this; exact this : Calls Try.prog 16 #[v, u, vec (d 0) (d 1) (d 2) (d 3), .int .i64 n] w' fun e w'' => e = .returned (.int .i64 (m : Int)) ∧ Below w'.heap.size w' w''))
  have RFit := Lib.hid (fun x y w' (hx : SlRow w' x ls) (hy : TRow w' y ts) => (by have := refFit_any x y ls ts d n w' hx hy hf hd hz hn; rw [hr] at this; exact this : Calls Try.prog 11 #[x, y, vec (d 0) (d 1) (d 2) (d 3), .int .i64 n] w' fun e w'' => FitTold ls r e w'' ∧ Below w'.heap.size w' w''))
  have RRoom := Lib.hid (fun x y w' (hx : SlRow w' x ls) (hy : TRow w' y ts) => (by have := refRoom_any x y ls ts d n w' hx hy hf hd hn; rw [hm] at this; exact this : Calls Try.prog 17 #[x, y, vec (d 0) (d 1) (d 2) (d 3), .int .i64 n] w' fun e w'' => e = .returned (.int .i64 (m : Int)) ∧ Below w'.heap.size w' w''))
  have HSl := Lib.hid (fun w' (h : Below W.heap.size W w') => refSlots_any v ls w' (HV.out w' h) hz)
  have HRS := Lib.hid (fun w' (h : Below W.heap.size W w') => refS_any' u ts w' (HU.out w' h) ht)
  have HRV := Lib.hid (fun w' => refV_any d w')
  have HW := Lib.hid hW
  unfold vec at CFit CRoom RFit RRoom
  unfold vec
  unfold boxV at HW
  clear hv hu hf hd hz hn ht hr hm hW S
  go_enter Try.func3, Try.ntmps3
  go_upto_region 1 with fail
  rw [← HW.out]
  clear HW
  go_wp2_with fail
  (with_reducible refine HX.out.mono ?_)
  rintro _ w1 ⟨rfl, b1⟩
  have H1 := Lib.hid b1
  obtain ⟨c0, c1, c2, c3⟩ := HB.out _ b1
  clear HX b1
  go_wp2_with fail
  (with_reducible refine (CFit.out _ H1.out).mono ?_)
  rintro _ w2 ⟨hf1, b2⟩
  have H2 := Lib.hid (H1.out.trans (b2.mono H1.out.size))
  have HF1 := Lib.hid hf1
  clear c0 c1 c2 c3 b2 hf1
  obtain ⟨fo, rfl, hfo⟩ := fitTold_open HF1.out
  obtain ⟨fb, hfb⟩ : ∃ fb, r.isSome = fb := ⟨_, rfl⟩
  have HFo := Lib.hid hfo
  have HFb := Lib.hid hfb
  rw [hfb]
  clear HF1 hfo hfb
  go_wp2_with fail
  have e0 := H2.out.drew
  have cb := HB.out _ e0
  refine wp_region_held_drew (S := fun z => z.cell? ⟨w.heap.size, 0, none⟩ = some (.int .u64 (d 0)) ∧ z.cell? ⟨w.heap.size, 1, none⟩ = some (.int .u64 (d 1)) ∧ z.cell? ⟨w.heap.size, 2, none⟩ = some (.int .u64 (d 2)) ∧ z.cell? ⟨w.heap.size, 3, none⟩ = some (.int .u64 (d 3))) (by kernel_rfl) cb (fun hHeld => ?_)
  clear cb
  (refine wpAnyH_take (i := 0) (v := ?_) rfl (by kernel_rfl) (by kernel_rfl) (by kernel_rfl) (fun _ _ _ h => h) (Or.inl ⟨by rfl, ?_⟩) hHeld ?_; rotate_left; focus (intro w hSw; (try dsimp only at hSw); go_simp; try with_reducible rfl))
  (refine wpAnyH_take (i := 2) (v := ?_) rfl (by kernel_rfl) (by kernel_rfl) (by kernel_rfl) (fun _ _ _ h => h) (Or.inl ⟨by rfl, ?_⟩) hHeld ?_; rotate_left; focus (intro w hSw; (try dsimp only at hSw); go_simp; try with_reducible rfl))
  (refine wpAnyH_take (i := 4) (v := ?_) rfl (by kernel_rfl) (by kernel_rfl) (by kernel_rfl) (fun _ _ _ h => h) (Or.inl ⟨by rfl, ?_⟩) hHeld ?_; rotate_left; focus (intro w hSw; (try dsimp only at hSw); go_simp; try with_reducible rfl))
  (refine wpAnyH_take (i := 6) (v := ?_) rfl (by kernel_rfl) (by kernel_rfl) (by kernel_rfl) (fun _ _ _ h => h) (Or.inl ⟨by rfl, ?_⟩) hHeld ?_; rotate_left; focus (intro w hSw; (try dsimp only at hSw); go_simp; try with_reducible rfl))
  (refine wpAnyH_ready (rs := [1]) (by kernel_rfl) (by simp) ?_; refine AllReadyH.cons rfl (fun K hK => ?_) AllReadyH.nil; go_simp; go_at_call 12; (with_reducible refine (HSl.out _ e0).mono ?_); rintro _ z1 ⟨⟨lv, rfl, hl1⟩, f1⟩; have e1 := e0.trans (f1.mono e0.size); refine hK.out _ _ (HB.out _ e1) (fun hHeld => ?_); clear hK K)
  (refine wpAnyH_ready (rs := [3]) (by kernel_rfl) (by simp) ?_; refine AllReadyH.cons rfl (fun K hK => ?_) AllReadyH.nil; go_simp; go_at_call 13; (with_reducible refine (HRS.out _ e1).mono ?_); rintro _ z2 ⟨⟨xv, rfl, hl2⟩, f2⟩; have e2 := e1.trans (f2.mono e1.size); refine hK.out _ _ (HB.out _ e2) (fun hHeld => ?_); clear hK K)
  (refine wpAnyH_ready (rs := [5]) (by kernel_rfl) (by simp) ?_; refine AllReadyH.cons rfl (fun K hK => ?_) AllReadyH.nil; go_simp; go_at_call 14; (with_reducible refine (HRV.out _).mono ?_); rintro _ z3 ⟨rfl, f3⟩; have e3 := e2.trans (f3.mono e2.size); refine hK.out _ _ (HB.out _ e3) (fun hHeld => ?_); clear hK K)
  have HFit := Lib.hid (RFit.out _ _ z3 ((hl1.below f2).below f3) (hl2.below f3))
  (refine wpAnyH_ready (rs := [7]) (by kernel_rfl) (by simp) ?_; refine AllReadyH.cons rfl (fun K hK => ?_) AllReadyH.nil; go_simp; go_at_call 11; (with_reducible refine HFit.out.mono ?_); rintro _ z4 ⟨hf4, f4⟩; obtain ⟨ro, rfl, hro⟩ := fitTold_open hf4; have e4 := e3.trans (f4.mono e3.size); refine hK.out _ _ (HB.out _ e4) (fun hHeld => ?_); clear hK K)
  rw [HFb.out]
  (refine wpAnyH_take (i := 8) (v := ?_) rfl (by kernel_rfl) (by kernel_rfl) (by kernel_rfl) (fun _ _ _ h => h) (Or.inl ⟨by rfl, ?_⟩) hHeld ?_; rotate_left; focus (intro w hSw; (try dsimp only at hSw); go_simp; try with_reducible rfl))
  (refine wpAnyH_take (i := 9) (v := ?_) rfl (by kernel_rfl) (by kernel_rfl) (by kernel_rfl) (fun _ _ _ h => h) (Or.inl ⟨by rfl, ?_⟩) hHeld ?_; rotate_left; focus (intro w hSw; (try dsimp only at hSw); go_simp; try with_reducible rfl))
  (refine wpAnyH_take (i := 10) (v := ?_) rfl (by kernel_rfl) (by kernel_rfl) (by kernel_rfl) (fun _ _ _ h => h) (Or.inl ⟨by rfl, ?_⟩) hHeld ?_; rotate_left; focus (intro w hSw; (try dsimp only at hSw); go_simp; try with_reducible rfl))
  (refine wpAnyH_take (i := 11) (v := ?_) rfl (by kernel_rfl) (by kernel_rfl) (by kernel_rfl) (fun _ _ _ h => h) (Or.inl ⟨by rfl, ?_⟩) hHeld ?_; rotate_left; focus (intro w hSw; (try dsimp only at hSw); go_simp; try with_reducible rfl))
  (refine wpAnyH_take (i := 12) (v := ?_) rfl (by kernel_rfl) (by kernel_rfl) (by kernel_rfl) (fun _ _ _ h => h) (Or.inl ⟨by rfl, ?_⟩) hHeld ?_; rotate_left; focus (intro w hSw; (try dsimp only at hSw); go_simp; try with_reducible rfl))
  refine wpAnyH_done (by kernel_rfl) ?_ _
  simp only [Act.put, List.getElem_toArray, List.getElem_cons_succ, List.getElem_cons_zero, List.setIfInBounds_toArray, List.set_cons_succ, List.set_cons_zero]
  have H4 := Lib.hid e4
  have HRo := Lib.hid hro
  have g0 : Below w2.heap.size w2 w2.drew := (Below.refl _ _).drew
  have g1 := g0.trans (f1.mono g0.size)
  have g2 := g1.trans (f2.mono g1.size)
  have g3 := g2.trans (f3.mono g2.size)
  have g4 := g3.trans (f4.mono g3.size)
  have HFo4 := Lib.hid (HFo.out.below g4)
  clear HFo HFb HFit hl1 hl2 f1 f2 f3 f4 g0 g1 g2 g3 g4 e0 e1 e2 e3 e4 hro hf4
  go_wp2_with fail
  have k0 := H4.out.drew
  have cb := HB.out _ k0
  have HTx := Lib.hid (texts_rows fo ro (rowsOf ls r) (rowsOf ls r) z4.drew (HFo4.out.below (Below.refl _ _).drew) (HRo.out.below (Below.refl _ _).drew))
  rw [show decide (rowsOf ls r = rowsOf ls r) = true from decide_eq_true rfl] at HTx
  refine wp_region_held_drew (S := fun z => z.cell? ⟨w.heap.size, 0, none⟩ = some (.int .u64 (d 0)) ∧ z.cell? ⟨w.heap.size, 1, none⟩ = some (.int .u64 (d 1)) ∧ z.cell? ⟨w.heap.size, 2, none⟩ = some (.int .u64 (d 2)) ∧ z.cell? ⟨w.heap.size, 3, none⟩ = some (.int .u64 (d 3))) (by kernel_rfl) cb (fun hHeld => ?_)
  clear cb
  (refine Step.take (i := 0) (d := (some 36)) (v := .bool true) (by kernel_rfl) (by kernel_rfl) (by kernel_rfl) (by kernel_rfl) (by kernel_rfl) (fun _ _ _ h => h) hHeld (fun _ hSw => by kernel_rfl) ?_)
  (refine Step.take (i := 1) (d := (some 37)) (v := .bool true) (by kernel_rfl) (by kernel_rfl) (by kernel_rfl) (by kernel_rfl) (by kernel_rfl) (fun _ _ _ h => h) hHeld (fun _ hSw => by kernel_rfl) ?_)
  (refine Step.take (i := 2) (d := (some 38)) (v := fo) (by kernel_rfl) (by kernel_rfl) (by kernel_rfl) (by kernel_rfl) (by kernel_rfl) (fun _ _ _ h => h) hHeld (fun _ hSw => by kernel_rfl) ?_)
  (refine Step.take (i := 3) (d := (some 39)) (v := ro) (by kernel_rfl) (by kernel_rfl) (by kernel_rfl) (by kernel_rfl) (by kernel_rfl) (fun _ _ _ h => h) hHeld (fun _ hSw => by kernel_rfl) ?_)
  (refine Step.call (i := 4) (d := (some 40)) 15 #[fo, ro] (by kernel_rfl) (by kernel_rfl) (by kernel_rfl) (by kernel_rfl) ?_; clear hHeld; refine (HTx.out).mono ?_; rintro _ y1 ⟨rfl, f1⟩; have k1 := k0.trans (f1.mono k0.size); refine ⟨_, rfl, HB.out _ k1, fun hHeld => ?_⟩)
  (refine Step.take (i := 5) (d := (some 41)) (v := .bool true) (by kernel_rfl) (by kernel_rfl) (by kernel_rfl) (by kernel_rfl) (by kernel_rfl) (fun _ _ _ h => h) hHeld (fun _ hSw => by kernel_rfl) ?_)
  (refine Step.take (i := 6) (d := (some 42)) (v := .bool true) (by kernel_rfl) (by kernel_rfl) (by kernel_rfl) (by kernel_rfl) (by kernel_rfl) (fun _ _ _ h => h) hHeld (fun _ hSw => by kernel_rfl) ?_)
  (refine Step.take (i := 7) (d := (some 43)) (v := .bool fb) (by kernel_rfl) (by kernel_rfl) (by kernel_rfl) (by kernel_rfl) (by kernel_rfl) (fun _ _ _ h => h) hHeld (fun _ hSw => by kernel_rfl) ?_)
  (refine Step.take (i := 8) (d := (some 44)) (v := .bool fb) (by kernel_rfl) (by kernel_rfl) (by kernel_rfl) (by kernel_rfl) (by kernel_rfl) (fun _ _ _ h => h) hHeld (fun _ hSw => by kernel_rfl) ?_)
  (refine Step.take (i := 9) (d := (some 45)) (v := .bool true) (by kernel_rfl) (by kernel_rfl) (by kernel_rfl) (by kernel_rfl) (by kernel_rfl) (fun _ _ _ h => h) hHeld (fun _ hSw => eq_bool (n := fb) (x := .tmp 43) (y := .tmp 44) (t := 4) (by kernel_rfl) (by kernel_rfl) (by kernel_rfl)) ?_)
  (refine Step.take (i := 10) (d := (some 46)) (v := .bool true) (by kernel_rfl) (by kernel_rfl) (by kernel_rfl) (by kernel_rfl) (by kernel_rfl) (fun _ _ _ h => h) hHeld (fun _ hSw => by kernel_rfl) ?_)
  (refine Step.take (i := 11) (d := (some 47)) (v := .bool true) (by kernel_rfl) (by kernel_rfl) (by kernel_rfl) (by kernel_rfl) (by kernel_rfl) (fun _ _ _ h => h) hHeld (fun _ hSw => by kernel_rfl) ?_)
  (refine Step.take (i := 12) (d := (some 48)) (v := v) (by kernel_rfl) (by kernel_rfl) (by kernel_rfl) (by kernel_rfl) (by kernel_rfl) (fun _ _ _ h => h) hHeld (fun _ hSw => by kernel_rfl) ?_)
  (refine Step.take (i := 13) (d := (some 49)) (v := u) (by kernel_rfl) (by kernel_rfl) (by kernel_rfl) (by kernel_rfl) (by kernel_rfl) (fun _ _ _ h => h) hHeld (fun _ hSw => by kernel_rfl) ?_)
  (refine Step.take (i := 14) (d := (some 50)) (v := .agg #[.int .u64 (d 0), .int .u64 (d 1), .int .u64 (d 2), .int .u64 (d 3)]) (by kernel_rfl) (by kernel_rfl) (by kernel_rfl) (by kernel_rfl) (by kernel_rfl) (fun _ _ _ h => h) hHeld (fun _ hSw => load_vec (x := .tmp 6) (by kernel_rfl) (by kernel_rfl) hSw) ?_)
  (refine Step.take (i := 15) (d := (some 51)) (v := .int .i64 n) (by kernel_rfl) (by kernel_rfl) (by kernel_rfl) (by kernel_rfl) (by kernel_rfl) (fun _ _ _ h => h) hHeld (fun _ hSw => by kernel_rfl) ?_)
  (refine Step.take (i := 17) (d := (some 53)) (v := v) (by kernel_rfl) (by kernel_rfl) (by kernel_rfl) (by kernel_rfl) (by kernel_rfl) (fun _ _ _ h => h) hHeld (fun _ hSw => by kernel_rfl) ?_)
  (refine Step.take (i := 19) (d := (some 55)) (v := u) (by kernel_rfl) (by kernel_rfl) (by kernel_rfl) (by kernel_rfl) (by kernel_rfl) (fun _ _ _ h => h) hHeld (fun _ hSw => by kernel_rfl) ?_)
  (refine Step.take (i := 21) (d := (some 57)) (v := .agg #[.int .u64 (d 0), .int .u64 (d 1), .int .u64 (d 2), .int .u64 (d 3)]) (by kernel_rfl) (by kernel_rfl) (by kernel_rfl) (by kernel_rfl) (by kernel_rfl) (fun _ _ _ h => h) hHeld (fun _ hSw => load_vec (x := .tmp 6) (by kernel_rfl) (by kernel_rfl) hSw) ?_)
  (refine Step.take (i := 23) (d := (some 59)) (v := .int .i64 n) (by kernel_rfl) (by kernel_rfl) (by kernel_rfl) (by kernel_rfl) (by kernel_rfl) (fun _ _ _ h => h) hHeld (fun _ hSw => by kernel_rfl) ?_)
  (refine Step.call (i := 16) (d := (some 52)) 16 #[v, u, .agg #[.int .u64 (d 0), .int .u64 (d 1), .int .u64 (d 2), .int .u64 (d 3)], .int .i64 n] (by kernel_rfl) (by kernel_rfl) (by kernel_rfl) (by kernel_rfl) ?_; clear hHeld; refine (CRoom.out _ k1).mono ?_; rintro _ y2 ⟨rfl, f2⟩; have k2 := k1.trans (f2.mono k1.size); refine ⟨_, rfl, HB.out _ k2, fun hHeld => ?_⟩)
  (refine Step.call (i := 18) (d := (some 54)) 12 #[v] (by kernel_rfl) (by kernel_rfl) (by kernel_rfl) (by kernel_rfl) ?_; clear hHeld; refine (HSl.out _ k2).mono ?_; rintro _ y3 ⟨⟨lv2, rfl, hl1⟩, f3⟩; have k3 := k2.trans (f3.mono k2.size); refine ⟨_, rfl, HB.out _ k3, fun hHeld => ?_⟩)
  (refine Step.call (i := 20) (d := (some 56)) 13 #[u] (by kernel_rfl) (by kernel_rfl) (by kernel_rfl) (by kernel_rfl) ?_; clear hHeld; refine (HRS.out _ k3).mono ?_; rintro _ y4 ⟨⟨xv2, rfl, hl2⟩, f4⟩; have k4 := k3.trans (f4.mono k3.size); refine ⟨_, rfl, HB.out _ k4, fun hHeld => ?_⟩)
  (refine Step.call (i := 22) (d := (some 58)) 14 #[.agg #[.int .u64 (d 0), .int .u64 (d 1), .int .u64 (d 2), .int .u64 (d 3)]] (by kernel_rfl) (by kernel_rfl) (by kernel_rfl) (by kernel_rfl) ?_; clear hHeld; refine (HRV.out _).mono ?_; rintro _ y5 ⟨rfl, f5⟩; have k5 := k4.trans (f5.mono k4.size); have HRm := Lib.hid (RRoom.out _ _ y5 ((hl1.below f4).below f5) (hl2.below f5)); refine ⟨_, rfl, HB.out _ k5, fun hHeld => ?_⟩)
  (refine Step.call (i := 24) (d := (some 60)) 17 #[lv2, xv2, .agg #[.int .u64 (d 0), .int .u64 (d 1), .int .u64 (d 2), .int .u64 (d 3)], .int .i64 n] (by kernel_rfl) (by kernel_rfl) (by kernel_rfl) (by kernel_rfl) ?_; clear hHeld; refine (HRm.out).mono ?_; rintro _ y6 ⟨rfl, f6⟩; have k6 := k5.trans (f6.mono k5.size); refine ⟨_, rfl, HB.out _ k6, fun hHeld => ?_⟩)
  (refine Step.take (i := 25) (d := (some 61)) (v := .bool true) (by kernel_rfl) (by kernel_rfl) (by kernel_rfl) (by kernel_rfl) (by kernel_rfl) (fun _ _ _ h => h) hHeld (fun _ hSw => eq_int (n := (m : Int)) (x := .tmp 52) (y := .tmp 60) (t := 3) (by kernel_rfl) (by kernel_rfl) (by kernel_rfl)) ?_)
  (refine Step.take (i := 26) (d := (some 62)) (v := .bool true) (by kernel_rfl) (by kernel_rfl) (by kernel_rfl) (by kernel_rfl) (by kernel_rfl) (fun _ _ _ h => h) hHeld (fun _ hSw => by kernel_rfl) ?_)
  (refine Step.take (i := 27) (d := (some 8)) (v := .bool true) (by kernel_rfl) (by kernel_rfl) (by kernel_rfl) (by kernel_rfl) (by kernel_rfl) (fun _ _ _ h => h) hHeld (fun _ hSw => by kernel_rfl) ?_)
  refine wpAnyH_done (by kernel_rfl) ?_ _
  simp only [Act.put, List.setIfInBounds_toArray, List.set_cons_succ, List.set_cons_zero]
  go_wp2
  go_ret
  exact ⟨rfl, hwW.trans (k6.mono hwW.size)⟩
end Go.Proofs.Ytbefnophkaepmaa.Pack
