/- What the library's DeleteFunc does with a row of slots of one's own and the program's question (chapter 13): those that match are kept, in their order; of memory that was there nothing turns. -/
import Derived.Test.YtbefnophkaepmaaKDel
namespace Go.Proofs.Ytbefnophkaepmaa.Pack
open Go.RowKit Go.Proofs.Ytbefnophkaepmaa.Label Go.Proofs.Ytbefnophkaepmaa.Sel Go.Proofs.Ytbefnophkaepmaa.Vec Go.Proofs.Ytbefnophkaepmaa.Texts

theorem keptS_all {ts : List Tm} {ls : List Slot} (h : ∀ (i : Nat) (s : Slot), ls[i]? = some s → fit1 ts s = true) : keptS ts ls = ls := by
  unfold keptS
  rw [List.filter_eq_self]
  intro s hs
  obtain ⟨i, hi⟩ := List.mem_iff_getElem?.1 hs
  exact h i s hi
theorem LRow.slice {w0 w : World} {B : Nat} {v : Value} {ls : List Slot} (h : LRow w0 w B v ls) : ∃ a cap, v = .slice a ls.length cap ∧ ls.length ≤ 9223372036854775807 := by
  rcases h with ⟨rfl, a, cap, h1, _⟩ | ⟨_, g, cap, h1, _, _, h2, h3, _⟩
  · exact ⟨a, cap, h1, by simp⟩
  · unfold maxLen at h3; exact ⟨_, cap, h1, by omega⟩

set_option maxHeartbeats 4000000 in
set_option maxRecDepth 100000 in
theorem delete_any {W0 : World} {B m : Nat} {ts : List Tm} (v : Value) (ls : List Slot) (w : World) (hv : LRow W0 w B v ls) (hb0 : Below B W0 w) (hBw : B ≤ w.heap.size) (hp : Asks W0 B ts m) :
    Calls Try.prog 23 #[v, .func (.func 25) #[] #[.pointer (some ⟨m, 0, none⟩)]] w fun e w' => ∃ v', e = .returned v' ∧ LRow W0 w' B v' (keptS ts ls) ∧ Below B W0 w' := by
  have HI := Lib.hid (indexF_any v ls w hv hb0 hBw hp)
  obtain ⟨a, cap, rfl, hln⟩ := hv.slice
  have HV := Lib.hid hv
  have HB := Lib.hid hb0
  have HP := Lib.hid hp
  have hen := enters_lacks
  clear hv hb0 hp
  go_enter Try.func23, Try.ntmps23
  go_wp2_with fail
  (with_reducible refine HI.out.mono ?_)
  rintro _ w1 ⟨⟨rfl, hall⟩ | ⟨k0, s0, rfl, hs0, hno0, hyes0⟩, hb1⟩
  · have HK := Lib.hid (keptS_all hall)
    have HR := Lib.hid (HV.out.below hb1)
    clear hall HI
    go_wp2
    go_ret
    exact ⟨_, rfl, by rw [HK.out]; exact HR.out, HB.out.trans (hb1.mono hBw)⟩
  · have hk0 := (List.getElem?_eq_some_iff.1 hs0).1
    have hne1 : ((k0 : Int) == -1) = false := beq_eq_false_iff_ne.2 (by omega)
    have HK0 := Lib.hid (Kept.start hs0 hno0 hyes0)
    have hb1' := HB.out.trans (hb1.mono hBw)
    have hvr := HV.out.below hb1
    have hB1 : B ≤ w1.heap.size := by have := hb1.size; omega
    rcases hvr with ⟨h0, _⟩ | ⟨_, g, cap', h1, h2, h3, h4, h5, h6⟩
    · rw [h0] at hk0; simp at hk0
    injection h1 with e1 _ e3
    subst e1; subst e3
    have H6 := Lib.hid h6
    have hcap : cap ≤ 9223372036854775807 := by unfold maxLen at h5; exact h5
    clear h6 hs0 hno0 hyes0 HI HV h5
    go_wp2
    go_loopw [5, 6] (fun i j wr => ∃ (x y : Nat) (cur : List Slot), i = .int .i64 x ∧ j = .int .i64 y ∧ Kept ts ls cur x y ∧ LCells W0 wr g 0 cur ∧ Below B W0 wr ∧ w1.heap.size ≤ wr.heap.size) (fun _ j _ => ls.length - (intOf j).toNat)
    case atStart => exact ⟨k0, k0 + 1, ls, rfl, by go_num, HK0.out, H6.out, hb1', Nat.le_refl _⟩
    case round =>
      obtain ⟨x, y, cur, rfl, rfl, hkept, hcells, hb, hsz⟩ := hrel
      have hxy := hkept.lt
      have hyl := hkept.le
      have hcl := hkept.len
      have HKp := Lib.hid hkept
      have HCe := Lib.hid hcells
      clear hkept hcells HK0
      by_cases hlt : y < ls.length
      · have hltz : (y : Int) < (ls.length : Int) := by omega
        have hxz : (x : Int) < (ls.length : Int) := by omega
        have hy0 : (0 : Int) ≤ (y : Int) := by omega
        have hx0 : (0 : Int) ≤ (x : Int) := by omega
        obtain ⟨s, hs⟩ : ∃ s, ls[y]? = some s := ⟨_, List.getElem?_eq_getElem hlt⟩
        have hcs : cur[y]? = some s := by rw [HKp.out.tail y (Nat.le_refl _)]; exact hs
        obtain ⟨la, lc, p0, p1, p2, p3, p4, p5, _, _, _, _, _, _, hlr, hok⟩ := HCe.out.at0 hcs
        obtain ⟨W2, hW2⟩ : ∃ W2, W2 = wr.alloc (boxS s (.slice la s.labs.length lc)) := ⟨_, rfl⟩
        have hw2 : Below wr.heap.size wr W2 := by rw [hW2]; exact (Below.refl _ _).alloc (Nat.le_refl _) _
        have hS : W2.heap[wr.heap.size]? = some (boxS s (.slice la s.labs.length lc)) := by rw [hW2]; exact heap_alloc_new _ _
        obtain ⟨b0, b1, b2, b3, b4, b5⟩ := cellsB hS
        have hb2 : Below B W0 W2 := hb.trans (hw2.mono (by omega))
        have HC := Lib.hid (HP.out W2 s (.slice la s.labs.length lc) hb2 hok hlr)
        obtain ⟨q, hq⟩ : ∃ q, fit1 ts s = q := ⟨_, rfl⟩
        rw [hq] at HC
        have HS := Lib.hid hs
        have HQ := Lib.hid hq
        have HLr := Lib.hid hlr
        have HOk := Lib.hid hok
        have HSb := Lib.hid hS
        have HW2 := Lib.hid hW2
        have hz2 := hw2.size
        have hg2 : g < W2.heap.size := by omega
        have hr2 : wr.heap.size < W2.heap.size := (Array.getElem?_eq_some_iff.1 hS).1
        have HC2 := Lib.hid (HCe.out.below (by omega) hw2)
        unfold valS at HC
        unfold boxS at HW2
        clear hs hq hlr hok hS hW2 hcs hw2
        go_upto_region 8 with fail
        rw [← HW2.out]
        clear HW2 p0 p1 p2 p3 p4 p5
        go_wp2_with fail
        (with_reducible refine HC.out.mono ?_)
        rintro _ w3 ⟨rfl, hb3⟩
        have hz3 := hb3.size
        have hb3' : Below B W0 w3 := hb2.trans (hb3.mono (by omega))
        have HC3 := Lib.hid (HC2.out.below hg2 hb3)
        have HS3 := Lib.hid ((hb3.block _ hr2).trans HSb.out)
        clear HC b0 b1 b2 b3 b4 b5 HC2 HSb
        cases q with
        | false =>
          go_wp2
          go_roundw
          case rel => exact ⟨x, y + 1, cur, rfl, by go_num, HKp.out.skip HS.out HQ.out, HC3.out, hb3', by omega⟩
          case measure => simp [intOf]; omega
        | true =>
          have hxl : x < cur.length := by omega
          obtain ⟨la', lc', c0, c1, c2, c3, c4, c5, f0, f1, f2, f3, f4, f5, _, _⟩ := HC3.out.at0 (List.getElem?_eq_getElem hxl)
          obtain ⟨b0, b1, b2, b3, b4, b5⟩ := cellsB HS3.out
          have HN := Lib.hid (HKp.out.keep HS.out HQ.out)
          have HPut := Lib.hid (HC3.out.put hxl s (.slice la s.labs.length lc) HLr.out HOk.out)
          have HBp := Lib.hid (put6_below (s := s) (lv := .slice la s.labs.length lc) (p := x * 6) hb3' h2)
          have HSz : Hid (w1.heap.size ≤ (put6 g (x * 6) s (.slice la s.labs.length lc) w3).heap.size) := Lib.hid (by rw [put6_size]; omega)
          unfold put6 at HPut HBp HSz
          obtain ⟨od, hod⟩ : ∃ od, cur[x] = od := ⟨_, rfl⟩
          rw [hod] at c0 c1 c2 c3 c4 c5
          clear hod
          go_wp2
          go_roundw
          case rel => exact ⟨x + 1, y + 1, cur.set x s, by go_num, by go_num, HN.out, HPut.out, HBp.out, HSz.out⟩
          case measure => simp [intOf]; omega
      · obtain rfl : y = ls.length := by omega
        have hltz : ¬ (ls.length : Int) < (ls.length : Int) := by omega
        have hxl : x < cur.length := by omega
        obtain ⟨w2, hcr, hb2, hcl2⟩ := HCe.out.clear_run (B := B) h2 hxl hcl.symm (cap - x) 0
        have hxz : (x : Int) < (ls.length : Int) := by omega
        have hxc : x < cap := by omega
        have hx0 : (0 : Int) ≤ (x : Int) := by omega
        have hxc2 : (x : Int) ≤ (cap : Int) := by omega
        have hnc2 : (ls.length : Int) ≤ (cap : Int) := by omega
        have HL := Lib.hid (HKp.out.length rfl)
        rw [HKp.out.done] at hcl2
        have HCl := Lib.hid hcl2
        have hfin := hb.trans hb2
        have hg2 : g < w2.heap.size := by have := hb2.size; omega
        clear hcl2
        go_wp2
        go_ret
        refine ⟨_, rfl, ?_, hfin⟩
        by_cases h0 : keptS ts ls = []
        · refine .inl ⟨h0, some ⟨g, 0, none⟩, cap, ?_, by unfold maxLen; omega⟩
          have : x = 0 := by have := HL.out; rw [h0] at this; exact this.symm
          subst this
          rfl
        · exact .inr ⟨h0, g, cap, by rw [HL.out]; rfl, h2, hg2, by rw [HL.out]; omega, by unfold maxLen; omega, HCl.out⟩
end Go.Proofs.Ytbefnophkaepmaa.Pack
