/- QueueComes: who goes, and comes back, stands where they stood; who comes in another order stands in the same: the walk, over what the calls say. -/
import Derived.Test.YtimaehaaidjokaaUIds
namespace Go.Proofs.Ytimaehaaidjokaa.Queue
open Go.RowKit

set_option maxHeartbeats 4000000 in
set_option maxRecDepth 100000 in
theorem queueComes_any (S : Says) (v : Value) (ls : List E) (c : Nat) (w : World) (hv : Row w v ls) (hc : c ≤ 255) :
    Calls Try.prog 6 #[v, .int .u8 (c : Int)] w fun e w' => e = .returned (.bool true) ∧ Below w.heap.size w w' := by
  have HV := Lib.hid hv
  have HS := Lib.hid S
  have HX := Lib.hid (examples_any S w)
  clear hv S
  go_enter Try.func6, Try.ntmps6
  go_wp2_with fail
  (with_reducible refine HX.out.mono ?_)
  rintro _ w1 ⟨rfl, k1⟩
  have HP := Lib.hid (pushed_rows HS.out v ls w1 (HV.out.below k1))
  go_wp2_with fail
  (with_reducible refine HP.out.mono ?_)
  rintro _ w2 ⟨⟨q0, rfl, hq⟩, k2⟩
  have hR := pushed_right right_nil ls
  obtain ⟨Q, hQ⟩ : ∃ Q, Q = pushedL [] ls := ⟨_, rfl⟩
  rw [← hQ] at hq hR
  have hW2 := k1.trans (k2.mono k1.size)
  have hfew := hR.few
  have HR := Lib.hid hR
  have HQ := Lib.hid hq
  obtain ⟨qa, qc, rfl, _, _⟩ := hq.slice
  clear hR hQ hq HP k1 k2 HX HV
  by_cases h0 : Q.length = 0
  · have h0z : ((Q.length : Int) == 0) = true := by rw [h0]; rfl
    clear h0
    go_wp2
    go_ret
    exact ⟨rfl, hW2⟩
  have h0z : ((Q.length : Int) == 0) = false := by rw [beq_eq_false_iff_ne]; omega
  have h0n : ¬ (Q.length : Int) = 0 := by omega
  obtain ⟨n, hn⟩ : ∃ n, c % Q.length = n := ⟨_, rfl⟩
  have hnl : n < Q.length := by rw [← hn]; exact Nat.mod_lt _ (by omega)
  have hnz : (n : Int) < (Q.length : Int) := by omega
  have hn0 : (0 : Int) ≤ (n : Int) := by omega
  have htm : Int.tmod (c : Int) (Q.length : Int) = (n : Int) := by rw [← hn]; rfl
  have hem : (c : Int) % (Q.length : Int) = (n : Int) := by rw [← hn]; rfl
  have hwc : IntKind.i64.wrap (c : Int) = (c : Int) := by rw [IntKind.wrap_i64]; omega
  obtain ⟨g, o, rfl, hg, hcl⟩ := HQ.out.cells hnl
  obtain ⟨x, hx⟩ : ∃ x, Q[n]? = some x := ⟨_, List.getElem?_eq_getElem hnl⟩
  obtain ⟨hf, x0, x1⟩ := hcl n x hx
  have HXF := Lib.hid hf
  have HXX := Lib.hid hx
  clear hx hcl hn hf
  obtain ⟨W, hW⟩ : ∃ W, W = w2.alloc (.cells #[.int .u64 (x.1 : Int), .int .i64 x.2] 25) := ⟨_, rfl⟩
  have h2W : Below w2.heap.size w2 W := by rw [hW]; exact (Below.refl _ _).alloc (Nat.le_refl _) _
  have HB := Lib.hid (fun w' (h : Below W.heap.size W w') => box_cells 25 w2 w' x (by rw [hW] at h; exact h))
  obtain ⟨t1, t2, t3, t4⟩ := HR.out.push_back (List.mem_of_getElem? HXX.out)
  have HT4 := Lib.hid t4
  have HQW := Lib.hid (HQ.out.below h2W)
  have CTake := Lib.hid (HS.out.take _ Q x.1 W HQW.out HXF.out.1 (by omega))
  rw [t1] at CTake
  have CPush := Lib.hid (fun u w' (h : Row w' u (remL x.1 Q)) => (by have := HS.out.push u _ x w' h HXF.out (by omega); rw [t2] at this; exact this : Calls Try.prog 11 #[u, val x] w' fun e w'' => (∃ u, e = .returned (.tuple #[u, .int .i64 ((0 : Nat) : Int)]) ∧ Row w'' u Q) ∧ Below w'.heap.size w' w''))
  have HRL := Lib.hid t3
  have HbW := Lib.hid (hW2.trans (h2W.mono hW2.size))
  have HW := Lib.hid hW
  obtain ⟨R, hRe⟩ : ∃ R, remL x.1 Q = R := ⟨_, rfl⟩
  rw [hRe] at CTake CPush HRL HT4
  obtain ⟨x1', x2'⟩ := x
  unfold val at CPush
  simp only at CTake CPush HRL HT4 HB HW x0 x1 HXX HXF
  clear t1 t2 t3 t4 hRe h2W hW hW2
  go_wp2_with fail
  rw [← HW.out]
  clear HW
  (with_reducible refine CTake.out.mono ?_)
  rintro _ w3 ⟨⟨t, rfl, ht⟩, k3⟩
  obtain ⟨c0, c1⟩ := HB.out _ k3
  have HTt := Lib.hid ht
  clear ht CTake x0 x1
  go_wp2_with fail
  (with_reducible refine (CPush.out _ _ HTt.out).mono ?_)
  rintro _ w4 ⟨⟨u, rfl, hu⟩, k4⟩
  have hb4 := k3.trans (k4.mono k3.size)
  have HU := Lib.hid hu
  have HT4w := Lib.hid (HTt.out.below k4)
  have HQ4 := Lib.hid (HQW.out.below hb4)
  have hb4L : IntKind.i64.wrap ((Q.length : Int) - 1) = (Q.length : Int) - 1 := by rw [IntKind.wrap_i64]; omega
  clear hu k3 k4 c0 c1 HTt HQW CPush
  go_wp2
  go_loopw [12, 13] (fun m t wr => ∃ k : Nat, k ≤ Q.length ∧ t = .int .i64 ((k : Int) - 1) ∧ Row wr m (Q.drop k) ∧ Below w4.heap.size w4 wr) (fun _ t _ => (intOf t + 1).toNat)
  case atStart => exact ⟨Q.length, Nat.le_refl _, rfl, by rw [List.drop_length]; exact Row.nil _, Below.refl _ _⟩
  case round =>
    obtain ⟨k, hk, rfl, hr, hb⟩ := hrel
    cases k with
    | succ k =>
      have e : (((k + 1 : Nat) : Int) - 1) = (k : Int) := by omega
      rw [e]
      have hk0 : (0 : Int) ≤ (k : Int) := by omega
      have hklz : (k : Int) < (Q.length : Int) := by omega
      have hwk : IntKind.i64.wrap ((k : Int) - 1) = (k : Int) - 1 := by rw [IntKind.wrap_i64]; omega
      obtain ⟨y, hy⟩ : ∃ y, Q[k]? = some y := ⟨_, List.getElem?_eq_getElem (by omega)⟩
      obtain ⟨g', o', e', hg', hc'⟩ := HQ4.out.cells (k := k) (by omega)
      injection e' with e'
      injection e' with e1 e2 _
      subst e1 e2
      obtain ⟨hf, y0, y1⟩ := hc'.below hg' hb k y hy
      have HP := Lib.hid (HS.out.push _ _ y wr hr hf (by rw [List.length_drop]; omega))
      rw [HR.out.turned hy] at HP
      clear hy hf hc' e hr
      obtain ⟨y1', y2'⟩ := y
      unfold val at HP
      simp only at HP y0 y1
      go_wp2_with fail
      (with_reducible refine HP.out.mono ?_)
      rintro _ wq ⟨⟨z, rfl, hz⟩, hbq⟩
      have HZ := Lib.hid hz
      clear hz HP y0 y1
      go_wp2
      go_roundw
      case rel => exact ⟨k, by omega, rfl, HZ.out, hb.trans (hbq.mono hb.size)⟩
      case measure => simp [intOf]
    | zero =>
      have e : (((0 : Nat) : Int) - 1) = -1 := by decide
      rw [e]
      rw [List.drop_zero] at hr
      have HM := Lib.hid hr
      have hbW := hb4.trans (hb.mono hb4.size)
      have l0 : ∀ q : Quiet.Behind wr, q.world.cell? ⟨w2.heap.size, 0, none⟩ = some (.int .u64 (x1' : Int)) := fun q => (HB.out q.world (hbW.trans (q.below.mono hbW.size))).1
      have HTw := Lib.hid (HT4w.out.below hb)
      have HUw := Lib.hid (HU.out.below hb)
      have HQw := Lib.hid (HQ4.out.below hb)
      have CSame1 := Lib.hid (fun w' (h : Below wr.heap.size wr w') => (by have := same_rows u _ Q Q w' (HUw.out.below h) (HQw.out.below h); simpa using this : Calls Try.prog 23 #[u, .slice (some ⟨g, o, none⟩) Q.length qc] w' fun e w'' => e = .returned (.bool true) ∧ Below w'.heap.size w' w''))
      have CSame2 := Lib.hid (fun w' (h : Below wr.heap.size wr w') => (by have := same_rows u12 _ Q Q w' (HM.out.below h) (HQw.out.below h); simpa using this : Calls Try.prog 23 #[u12, .slice (some ⟨g, o, none⟩) Q.length qc] w' fun e w'' => e = .returned (.bool true) ∧ Below w'.heap.size w' w''))
      have CPlace := Lib.hid (fun w' (h : Below wr.heap.size wr w') => HS.out.place t R x1' w' (HTw.out.below h) HXF.out.1)
      rw [HT4.out] at CPlace
      obtain ⟨ta, tc, rfl, _, _⟩ := HTw.out.slice
      have hRl : (R.length : Int) = (Q.length : Int) - 1 := by have := HRL.out; omega
      have hRb : ((R.length : Int) == (Q.length : Int) - 1) = true := by rw [hRl]; simp
      have hbF := HbW.out.trans (hbW.mono HbW.out.size)
      clear hr e hbW HB HUw HQw HM hRl
      go_upto_region 15 with fail
      refine Whole.regionL ?_
      (try simp only [List.append])
      repeat (go_big_quiet_step (first | (go_at_call 16; (with_reducible exact Quiet.calls (CPlace.out _ (Quiet.Behind.below _)))) | (go_at_call 23; (with_reducible first | exact Quiet.calls (CSame1.out _ (Quiet.Behind.below _)) | exact Quiet.calls (CSame2.out _ (Quiet.Behind.below _))))))
      refine wpQuiet_nil ?_
      rintro _ ⟨pz, rfl⟩
      have hq := hbF.trans (pz.below.mono hbF.size)
      generalize pz.world = ws at hq ⊢
      go_wp2
      go_ret
      exact ⟨rfl, hq⟩
end Go.Proofs.Ytimaehaaidjokaa.Queue
