/- Push (chapter 14): of any queue, any entry, as the document has it; of memory that was there nothing turns. -/
import Derived.Test.YtimaehaaidjokaaUIns
import Derived.Test.YtimaehaaidjokaaHeld
namespace Go.Proofs.Ytimaehaaidjokaa.Queue
open Go.RowKit Go.Proofs.Ytimaehaaidjokaa.Rec

abbrev ordV : Value := .agg #[.func (.func 20) #[] #[]]
set_option maxHeartbeats 1000000 in
set_option maxRecDepth 100000 in
theorem turns_any (w : World) : Calls Try.prog 27 #[] w fun r w' => r = .returned ordV ∧ Below w.heap.size w w' := by
  have hb : (w.alloc boxO).heap[w.heap.size]? = some boxO := heap_alloc_new _ _
  have hc := cellB hb (i := 0) rfl
  have hB : Below w.heap.size w (w.alloc boxO) := (Below.refl _ _).alloc (Nat.le_refl _) _
  have HB := Lib.hid hB
  unfold boxO at hc HB
  clear hb hB
  go_enter Try.func27, Try.ntmps27
  go_wp2
  refine bodyPost_ret (v := ordV) (by simp [results, Try.results27, go_sem, hc]) rfl ?_
  exact ⟨rfl, HB.out⟩

theorem push_arg {q : List E} {x : E} (h : mayB x = false) : pushL q x = (q, 1) := by
  unfold mayB at h
  unfold pushL
  rw [if_pos]
  rw [Bool.and_eq_false_iff, decide_eq_false_iff_not, decide_eq_false_iff_not] at h
  omega
theorem push_twice {q : List E} {x : E} (h : mayB x = true) (h2 : has q x.1 = true) : pushL q x = (q, 8) := by
  unfold mayB at h
  rw [Bool.and_eq_true, decide_eq_true_iff, decide_eq_true_iff] at h
  unfold pushL
  rw [if_neg (by omega), if_pos h2]
theorem push_full {q : List E} {x : E} (h : mayB x = true) (h2 : has q x.1 = false) (h3 : 32 ≤ q.length) : pushL q x = (q, 9) := by
  unfold mayB at h
  rw [Bool.and_eq_true, decide_eq_true_iff, decide_eq_true_iff] at h
  unfold pushL
  rw [if_neg (by omega), if_neg (by simp [h2]), if_pos h3]
theorem push_ok {q : List E} {x : E} (h : mayB x = true) (h2 : has q x.1 = false) (h3 : ¬ 32 ≤ q.length) : pushL q x = (insL x q, 0) := by
  unfold mayB at h
  rw [Bool.and_eq_true, decide_eq_true_iff, decide_eq_true_iff] at h
  unfold pushL
  rw [if_neg (by omega), if_neg (by simp [h2]), if_neg h3]
theorem place_ge {q : List E} {i : Nat} : (0 ≤ placeL q i) ↔ has q i = true := by
  unfold placeL
  cases h : has q i
  · simp
  · rw [if_pos rfl]; simp
theorem place_neg {q : List E} {i : Nat} (h : has q i = false) : placeL q i = -1 := by
  unfold placeL; rw [h]; rfl

set_option maxHeartbeats 4000000 in
set_option maxRecDepth 100000 in
theorem push_any (v : Value) (q : List E) (x : E) (w : World) (hv : Row w v q) (hf : Fair x) (hz : q.length ≤ 8796093022208) :
    Calls Try.prog 11 #[v, val x] w fun e w' => (∃ u, e = .returned (.tuple #[u, .int .i64 ((pushL q x).2 : Int)]) ∧ Row w' u (pushL q x).1) ∧ Below w.heap.size w w' := by
  obtain ⟨W, hW⟩ : ∃ W, W = w.alloc (boxU x) := ⟨_, rfl⟩
  have hwW : Below w.heap.size w W := by rw [hW]; exact (Below.refl _ _).alloc (Nat.le_refl _) _
  have hb : W.heap[w.heap.size]? = some (boxU x) := by rw [hW]; exact heap_alloc_new _ _
  have hWs : W.heap.size = w.heap.size + 1 := by rw [hW]; simp
  have hvW := hv.below hwW
  have hln := hv.len
  have hfq := hv.fair
  have HCl := Lib.hid (cloneU_any v q W hvW hz)
  have HMay := Lib.hid fun wr => may_any x wr
  have HPl := Lib.hid fun wr (h : Below W.heap.size W wr) => place_any v q x.1 wr (hvW.below h)
  have HPo := Lib.hid fun wr (h : Below W.heap.size W wr) => placeOf_any v q x wr (hvW.below h)
  have HX := Lib.hid fun wr (h : Below W.heap.size W wr) => cellsU ((h.block w.heap.size (by omega)).trans hb)
  have HB := Lib.hid hwW
  have HW := Lib.hid hW
  have HF := Lib.hid hfq
  have HFx := Lib.hid hf
  have HWs := Lib.hid hWs
  have hwl := where_le q x
  have hins := insL_where q x
  obtain ⟨m, hm⟩ : ∃ m, mayB x = m := ⟨_, rfl⟩
  have HMay := Lib.hid (show ∀ wr, Calls Try.prog 25 #[val x] wr fun e w' => e = .returned (.bool m) ∧ Below wr.heap.size wr w' from fun wr => by rw [← hm]; exact may_any x wr)
  obtain ⟨k, hk⟩ : ∃ k, whereN q x = k := ⟨_, rfl⟩
  rw [hk] at HPo hwl hins
  obtain ⟨pl, hpl⟩ : ∃ pl, placeL q x.1 = pl := ⟨_, rfl⟩
  rw [hpl] at HPl
  have hw2 : m = false → pushL q x = (q, 1) := fun h => push_arg (hm.trans h)
  have hw8 : m = true → 0 ≤ pl → pushL q x = (q, 8) := fun h h2 => push_twice (hm.trans h) (place_ge.1 (by rw [hpl]; exact h2))
  have hw9 : m = true → ¬ 0 ≤ pl → 32 ≤ q.length → pushL q x = (q, 9) := fun h h2 h3 => push_full (hm.trans h) (by cases hh : has q x.1 <;> first | rfl | exact absurd (hpl ▸ place_ge.2 hh) h2) h3
  have hw0 : m = true → ¬ 0 ≤ pl → ¬ 32 ≤ q.length → pushL q x = (q.take k ++ x :: q.drop k, 0) := fun h h2 h3 => by rw [push_ok (hm.trans h) (by cases hh : has q x.1 <;> first | rfl | exact absurd (hpl ▸ place_ge.2 hh) h2) h3, hins]
  have hsl := hv.slice
  clear hm hk hpl hv hwW hW hvW hb hins hf hfq hWs
  obtain ⟨a, vc, rfl, _, _⟩ := hsl
  obtain ⟨i, p⟩ := x
  unfold boxU at HW
  unfold val at HPo HMay ⊢
  simp only at HPo HMay HX HPl ⊢
  have H2 := Lib.hid hw2
  have H8 := Lib.hid hw8
  have H9 := Lib.hid hw9
  have H0 := Lib.hid hw0
  have HKl := Lib.hid hwl
  clear hw2 hw8 hw9 hw0 hwl
  go_enter Try.func11, Try.ntmps11
  go_upto_region 1 with fail
  rw [← HW.out]
  clear HW
  go_wp2_with fail
  (with_reducible refine HCl.out.mono ?_)
  rintro _ wq ⟨⟨t, rfl, hown⟩, hbq⟩
  obtain ⟨ta, tc, rfl, _, _⟩ := hown.slice
  obtain ⟨x0, x1⟩ := HX.out wq hbq
  have HO := Lib.hid hown
  clear hown HCl
  have HBq := Lib.hid hbq
  go_wp2_with fail
  (with_reducible refine (HMay.out _).mono ?_)
  rintro _ wm ⟨rfl, hbm⟩
  have hbm1 := HBq.out.trans (hbm.mono HBq.out.size)
  have HBm := Lib.hid hbm1
  have HO := Lib.hid (HO.out.more hbm)
  obtain ⟨x0, x1⟩ := HX.out wm hbm1
  clear hbm hbm1 hbq HMay
  cases m with
  | false =>
    have h2 := Lib.hid (H2.out (by trivial))
    go_wp2
    go_ret2
    rw [h2.out]
    exact ⟨⟨_, rfl, HO.out.row HF.out⟩, HB.out.trans (HBm.out.mono HB.out.size)⟩
  | true =>
    go_wp2_with fail
    (with_reducible refine (HPl.out _ HBm.out).mono ?_)
    rintro _ wp ⟨rfl, hbp⟩
    have hbp1 := HBm.out.trans (hbp.mono HBm.out.size)
    have HBp := Lib.hid hbp1
    have HO := Lib.hid (HO.out.more hbp)
    obtain ⟨x0, x1⟩ := HX.out wp hbp1
    clear hbp hbp1 HPl
    by_cases hpl : 0 ≤ pl
    · have h8 := Lib.hid (H8.out (by trivial) (by omega))
      have hd : decide (0 ≤ pl) = true := decide_eq_true hpl
      go_wp2
      go_ret2
      rw [h8.out]
      exact ⟨⟨_, rfl, HO.out.row HF.out⟩, HB.out.trans (HBp.out.mono HB.out.size)⟩
    · have hd : decide (0 ≤ pl) = false := decide_eq_false hpl
      by_cases hl : 32 ≤ q.length
      · have h9 := Lib.hid (H9.out (by trivial) (by omega) hl)
        have hl' : (32 : Int) ≤ (q.length : Int) := by omega
        go_wp2
        go_ret2
        rw [h9.out]
        exact ⟨⟨_, rfl, HO.out.row HF.out⟩, HB.out.trans (HBp.out.mono HB.out.size)⟩
      · have h0 := Lib.hid (H0.out (by trivial) (by omega) hl)
        have hl' : ¬ ((32 : Int) ≤ (q.length : Int)) := by omega
        have hne : Hid (∀ (wy : World) (vb : Nat), wp.heap.size ≤ vb → ∀ g n c, (Value.slice ta q.length tc) = .slice (some ⟨g, 0, none⟩) n c → vb ≠ g) := Lib.hid fun _ vb hvb g n c e => by
          have := (HO.out.lt g (by rw [e]; rfl)).2
          omega
        have HIn : Hid (∀ (wy : World) (vb : Nat), Below wp.heap.size wp wy → wp.heap.size ≤ vb → wy.heap[vb]? = some (boxU (i, p)) → Calls Try.prog 26 #[.slice ta q.length tc, .int .i64 (k : Int), .slice (some ⟨vb, 0, none⟩) 1 1] wy fun e w' => (∃ u, e = .returned u ∧ Mine 25 w' W.heap.size u (q.take k ++ (i, p) :: q.drop k)) ∧ Below W.heap.size wy w') := Lib.hid fun wy vb hy hvb hx =>
          insert_any _ q k (i, p) vb wy (HO.out.more hy) (by have := HBp.out.size; have := hy.size; omega) HKl.out (by omega) hx HFx.out (hne.out wy vb hvb)
        have HFn : Hid (∀ c ∈ q.take k ++ (i, p) :: q.drop k, Fair c) := Lib.hid fun c hc => by
          rw [List.mem_append, List.mem_cons] at hc
          rcases hc with hc | rfl | hc
          · exact HF.out c (List.mem_of_mem_take hc)
          · exact HFx.out
          · exact HF.out c (List.mem_of_mem_drop hc)
        clear H2 H8 H9 H0 hne x0 x1
        go_upto_region 8 with fail
        go_cut [4, 5] (fun t4 t5 wx => t5 = .int .i64 0 ∧ Mine 25 wx W.heap.size t4 (q.take k ++ (i, p) :: q.drop k) ∧ Below W.heap.size W wx)
        case first =>
          refine Held.start (m := 9) (S := fun y => y.cell? ⟨w.heap.size, 0, none⟩ = some (.int .u64 (i : Int)) ∧ y.cell? ⟨w.heap.size, 1, none⟩ = some (.int .i64 p)) (by kernel_rfl) (HX.out _ HBp.out.drew) (fun hHeld => ?_)
          (refine Held.take (i := 0) (v := ?_) rfl (by kernel_rfl) (by kernel_rfl) (by kernel_rfl) (by kernel_rfl) (by kernel_rfl) (fun _ _ _ h => h) (Or.inl ⟨by rfl, ?_⟩) hHeld ?_; rotate_left; focus (intro w hSw; (try dsimp only at hSw); go_simp; try with_reducible rfl))
          (refine Held.take (i := 2) (v := ?_) rfl (by kernel_rfl) (by kernel_rfl) (by kernel_rfl) (by kernel_rfl) (by kernel_rfl) (fun _ _ _ h => h) (Or.inl ⟨by rfl, ?_⟩) hHeld ?_; rotate_left; focus (intro w hSw; (try dsimp only at hSw); go_simp; try with_reducible rfl))
          (refine Held.take (i := 3) (v := ?_) rfl (by kernel_rfl) (by kernel_rfl) (by kernel_rfl) (by kernel_rfl) (by kernel_rfl) (fun _ _ _ h => h) (Or.inl ⟨by rfl, ?_⟩) hHeld ?_; rotate_left; focus (intro w hSw; (try dsimp only at hSw); go_simp; try with_reducible rfl))
          (refine Held.take (i := 5) (v := ?_) rfl (by kernel_rfl) (by kernel_rfl) (by kernel_rfl) (by kernel_rfl) (by kernel_rfl) (fun _ _ _ h => h) (Or.inl ⟨by rfl, ?_⟩) hHeld ?_; rotate_left; focus (intro w hSw; (try dsimp only at hSw); go_simp; try with_reducible rfl))
          refine Held.ready (rs := [1, 6]) (by kernel_rfl) (by simp) ?_
          refine Held.Ready.cons rfl (fun K hK => ?_) (Held.Ready.cons rfl (fun K hK => ?_) Held.Ready.nil)
          · (go_simp; go_at_call 27; (with_reducible refine (turns_any _).mono ?_); rintro e w2 ⟨rfl, hbl2⟩; have hb2 : Below wp.heap.size wp w2 := (Below.refl _ _).drew.trans hbl2; refine hK.out _ _ (HX.out w2 (HBp.out.trans (hb2.mono HBp.out.size))) (fun hHeld => ?_); clear hK K)
            refine Held.ready (rs := [4, 6]) (by kernel_rfl) (by simp) ?_
            refine Held.Ready.cons rfl (fun K hK => ?_) (Held.Ready.cons rfl (fun K hK => ?_) Held.Ready.nil)
            · (go_simp; go_at_call 28; (with_reducible refine (HPo.out _ (HBp.out.trans (hb2.mono HBp.out.size))).mono ?_); rintro e w4 ⟨rfl, hbl4⟩; have hb4 : Below wp.heap.size wp w4 := hb2.trans (hbl4.mono hb2.size); refine hK.out _ _ (HX.out w4 (HBp.out.trans (hb4.mono HBp.out.size))) (fun hHeld => ?_); clear hK K)
              have hb6 : Below wp.heap.size wp (w4.alloc (.cells #[.int .u64 (i : Int), .int .i64 p] 25)) := hb4.alloc hb4.size _
              have HI := Lib.hid (HIn.out _ w4.heap.size hb6 hb4.size (heap_alloc_new _ _))
              (refine Held.ready (rs := [6]) (by kernel_rfl) (by simp) ?_; refine Held.Ready.cons rfl (fun K hK => ?_) Held.Ready.nil; go_simp; refine hK.out _ _ (HX.out _ (HBp.out.trans (hb6.mono HBp.out.size))) (fun hHeld => ?_); clear hK K)
              (refine Held.ready (rs := [7]) (by kernel_rfl) (by simp) ?_; refine Held.Ready.cons rfl (fun K hK => ?_) Held.Ready.nil; go_simp; go_at_call 26; (with_reducible refine HI.out.mono ?_); rintro e w7 ⟨⟨v7, rfl, hown7⟩, hbl7⟩; have hb7 : Below W.heap.size W w7 := (HBp.out.trans (hb6.mono HBp.out.size)).trans hbl7; refine hK.out _ _ (HX.out w7 hb7) (fun hHeld => ?_); clear hK K)
              (refine Held.take (i := 8) (v := ?_) rfl (by kernel_rfl) (by kernel_rfl) (by kernel_rfl) (by kernel_rfl) (by kernel_rfl) (fun _ _ _ h => h) (Or.inl ⟨by rfl, ?_⟩) hHeld ?_; rotate_left; focus (intro w hSw; (try dsimp only at hSw); go_simp; try with_reducible rfl))
              (refine Held.ready (rs := [9]) (by kernel_rfl) (by simp) ?_; refine Held.Ready.last rfl (fun K hK => ?_); go_simp; refine hK.out _ _ ?_; clear hK K)
              refine Held.done (by kernel_rfl) ?_ _
              go_wp2_with fail
              go_meet
              exact ⟨rfl, hown7, hb7⟩
            · (go_simp; have hb6 : Below wp.heap.size wp (w2.alloc (.cells #[.int .u64 (i : Int), .int .i64 p] 25)) := hb2.alloc hb2.size _; refine hK.out _ _ (HX.out _ (HBp.out.trans (hb6.mono HBp.out.size))) (fun hHeld => ?_); clear hK K)
              have hbx : (w2.alloc (.cells #[.int .u64 (i : Int), .int .i64 p] 25)).heap[w2.heap.size]? = some (boxU (i, p)) := heap_alloc_new _ _
              have hsx : (w2.alloc (.cells #[.int .u64 (i : Int), .int .i64 p] 25)).heap.size = w2.heap.size + 1 := by simp
              (refine Held.ready (rs := [4]) (by kernel_rfl) (by simp) ?_; refine Held.Ready.cons rfl (fun K hK => ?_) Held.Ready.nil; go_simp; go_at_call 28; (with_reducible refine (HPo.out _ (HBp.out.trans (hb6.mono HBp.out.size))).mono ?_); rintro e w4 ⟨rfl, hbl4⟩; have hb4 : Below wp.heap.size wp w4 := hb6.trans (hbl4.mono hb6.size); refine hK.out _ _ (HX.out w4 (HBp.out.trans (hb4.mono HBp.out.size))) (fun hHeld => ?_); clear hK K)
              have HI := Lib.hid (HIn.out w4 w2.heap.size hb4 hb2.size ((hbl4.block w2.heap.size (by omega)).trans hbx))
              (refine Held.ready (rs := [7]) (by kernel_rfl) (by simp) ?_; refine Held.Ready.cons rfl (fun K hK => ?_) Held.Ready.nil; go_simp; go_at_call 26; (with_reducible refine HI.out.mono ?_); rintro e w7 ⟨⟨v7, rfl, hown7⟩, hbl7⟩; have hb7 : Below W.heap.size W w7 := (HBp.out.trans (hb4.mono HBp.out.size)).trans hbl7; refine hK.out _ _ (HX.out w7 hb7) (fun hHeld => ?_); clear hK K)
              (refine Held.take (i := 8) (v := ?_) rfl (by kernel_rfl) (by kernel_rfl) (by kernel_rfl) (by kernel_rfl) (by kernel_rfl) (fun _ _ _ h => h) (Or.inl ⟨by rfl, ?_⟩) hHeld ?_; rotate_left; focus (intro w hSw; (try dsimp only at hSw); go_simp; try with_reducible rfl))
              (refine Held.ready (rs := [9]) (by kernel_rfl) (by simp) ?_; refine Held.Ready.last rfl (fun K hK => ?_); go_simp; refine hK.out _ _ ?_; clear hK K)
              refine Held.done (by kernel_rfl) ?_ _
              go_wp2_with fail
              go_meet
              exact ⟨rfl, hown7, hb7⟩
          · (go_simp; have hb6 : Below wp.heap.size wp (wp.alloc (.cells #[.int .u64 (i : Int), .int .i64 p] 25)).drew := ((Below.refl _ _).alloc (Nat.le_refl _) _).drew; refine hK.out _ _ (HX.out _ (HBp.out.trans (hb6.mono HBp.out.size))) (fun hHeld => ?_); clear hK K)
            have hbx : (wp.alloc (.cells #[.int .u64 (i : Int), .int .i64 p] 25)).drew.heap[wp.heap.size]? = some (boxU (i, p)) := heap_alloc_new wp _
            have hsx : (wp.alloc (.cells #[.int .u64 (i : Int), .int .i64 p] 25)).drew.heap.size = wp.heap.size + 1 := by show (wp.alloc _).heap.size = _; rw [World.size_alloc]
            (refine Held.ready (rs := [1]) (by kernel_rfl) (by simp) ?_; refine Held.Ready.cons rfl (fun K hK => ?_) Held.Ready.nil; go_simp; go_at_call 27; (with_reducible refine (turns_any _).mono ?_); rintro e w2 ⟨rfl, hbl2⟩; have hb2 : Below wp.heap.size wp w2 := hb6.trans (hbl2.mono hb6.size); refine hK.out _ _ (HX.out w2 (HBp.out.trans (hb2.mono HBp.out.size))) (fun hHeld => ?_); clear hK K)
            have hbx2 := (hbl2.block wp.heap.size (by omega)).trans hbx
            (refine Held.ready (rs := [4]) (by kernel_rfl) (by simp) ?_; refine Held.Ready.cons rfl (fun K hK => ?_) Held.Ready.nil; go_simp; go_at_call 28; (with_reducible refine (HPo.out _ (HBp.out.trans (hb2.mono HBp.out.size))).mono ?_); rintro e w4 ⟨rfl, hbl4⟩; have hb4 : Below wp.heap.size wp w4 := hb2.trans (hbl4.mono hb2.size); refine hK.out _ _ (HX.out w4 (HBp.out.trans (hb4.mono HBp.out.size))) (fun hHeld => ?_); clear hK K)
            have HI := Lib.hid (HIn.out w4 wp.heap.size hb4 (Nat.le_refl _) ((hbl4.block wp.heap.size (by have := hbl2.size; omega)).trans hbx2))
            (refine Held.ready (rs := [7]) (by kernel_rfl) (by simp) ?_; refine Held.Ready.cons rfl (fun K hK => ?_) Held.Ready.nil; go_simp; go_at_call 26; (with_reducible refine HI.out.mono ?_); rintro e w7 ⟨⟨v7, rfl, hown7⟩, hbl7⟩; have hb7 : Below W.heap.size W w7 := (HBp.out.trans (hb4.mono HBp.out.size)).trans hbl7; refine hK.out _ _ (HX.out w7 hb7) (fun hHeld => ?_); clear hK K)
            (refine Held.take (i := 8) (v := ?_) rfl (by kernel_rfl) (by kernel_rfl) (by kernel_rfl) (by kernel_rfl) (by kernel_rfl) (fun _ _ _ h => h) (Or.inl ⟨by rfl, ?_⟩) hHeld ?_; rotate_left; focus (intro w hSw; (try dsimp only at hSw); go_simp; try with_reducible rfl))
            (refine Held.ready (rs := [9]) (by kernel_rfl) (by simp) ?_; refine Held.Ready.last rfl (fun K hK => ?_); go_simp; refine hK.out _ _ ?_; clear hK K)
            refine Held.done (by kernel_rfl) ?_ _
            go_wp2_with fail
            go_meet
            exact ⟨rfl, hown7, hb7⟩
        case rest =>
          obtain ⟨rfl, hown, hbc⟩ := hcut
          have HM := Lib.hid (hown.row HFn.out)
          have HBc := Lib.hid (HB.out.trans (hbc.mono HB.out.size))
          obtain ⟨u, cu, rfl, _, _⟩ := hown.slice
          clear hown hbc
          go_wp2
          go_ret2
          rw [h0.out]
          exact ⟨⟨_, rfl, HM.out⟩, HBc.out⟩
end Go.Proofs.Ytimaehaaidjokaa.Queue
