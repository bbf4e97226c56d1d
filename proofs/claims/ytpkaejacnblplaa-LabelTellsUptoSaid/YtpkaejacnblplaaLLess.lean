/- What slices.CompactFunc does with up to eight pairs of a row of one's own in which a key stands twice: it hands a shorter one back. Of memory that was there nothing turns. -/
import Derived.Test.YtpkaejacnblplaaLCompact
namespace Go.Proofs.Ytpkaejacnblplaa.Label
open Go.RowKit Go.Proofs.Ytpkaejacnblplaa.Word Go.Sort

set_option maxHeartbeats 4000000 in
set_option maxRecDepth 100000 in
theorem compact_less (B g cap : Nat) (ls : List Pr) (w : World) (hB : B ≤ g) (hBw : B ≤ w.heap.size) (hg : g < w.heap.size) (hcap : ls.length ≤ cap) (hH : HoldsK enc 2 w g 0 ls.toArray) (hl : ls.length ≤ 8) (hd : Dup ls) :
    Calls Try.prog 61 #[.slice (some ⟨g, 0, none⟩) ls.length cap, .func (.func 62) #[] #[]] w fun e w' => (∃ k : Nat, e = .returned (.slice (some ⟨g, 0, none⟩) k cap) ∧ k < ls.length) ∧ Below B w w' := by
  have h2 : ¬ (ls.length : Int) < 2 := by
    obtain ⟨j, x, y, _, hy, _⟩ := hd
    have := (List.getElem?_eq_some_iff.1 hy).1
    omega
  have HC := Lib.hid (holds_cells hH)
  have HT0 := Lib.hid (texts_of hH)
  have HD := Lib.hid hd
  have enters := enters_twice
  have mixed : Try.prog.follows .mixedOrders = true := by kernel_rfl
  obtain ⟨o, ho⟩ : ∃ o : Nat, o = 0 := ⟨0, rfl⟩
  obtain ⟨n, hn⟩ : ∃ n, n = ls.length := ⟨_, rfl⟩
  have HN := Lib.hid hn
  rw [← ho] at HC HT0 ⊢
  rw [← hn] at HT0 h2 hcap hl ⊢
  clear hH hd ho hn

  go_enter Try.func61, Try.ntmps61
  go_wp2
  go_loopw [5] (fun i wr => ∃ k : Nat, k + 1 ≤ n ∧ i = .int .i64 ((k : Int) + 1) ∧ (∀ j x y, j < k → ls[j]? = some x → ls[j + 1]? = some y → (y.1.toList == x.1.toList) = false) ∧ Below w.heap.size w wr ∧ Texts wr g o n) (fun i _ => n - (intOf i).toNat)
  case atStart => exact ⟨0, by omega, rfl, fun j _ _ hj => absurd hj (Nat.not_lt_zero _), Below.refl _ _, HT0.out⟩
  case round =>
    obtain ⟨k, hk, rfl, hno, hb, htx⟩ := hrel
    have HNO := Lib.hid hno
    have HTX := Lib.hid htx
    clear hno htx
    by_cases hlt : k + 1 < n
    · have hltz : (k : Int) + 1 < (n : Int) := by omega
      obtain ⟨x, hx⟩ : ∃ x, ls[k]? = some x := ⟨_, List.getElem?_eq_getElem (by have := HN.out; omega)⟩
      obtain ⟨y, hy⟩ : ∃ y, ls[k + 1]? = some y := ⟨_, List.getElem?_eq_getElem (by have := HN.out; omega)⟩
      have hgr : g < wr.heap.size := by have := hb.size; omega
      have hcx := HC.out.below hg hb k x hx
      have hcy := HC.out.below hg hb (k + 1) y hy
      have cx1 := fun n os => cell_grown (a := ⟨g, o + k * 2, none⟩) hgr hcx.1 n os
      have cx2 := fun n os => cell_grown (a := ⟨g, o + k * 2 + 1, none⟩) hgr hcx.2 n os
      have cy1 := fun n os => cell_grown (a := ⟨g, o + (k + 1) * 2, none⟩) hgr hcy.1 n os
      have cy2 := fun n os => cell_grown (a := ⟨g, o + (k + 1) * 2 + 1, none⟩) hgr hcy.2 n os
      clear hcx hcy
      have p0 : (0 : Int) ≤ (k : Int) + 1 := by omega
      have p1 : (k : Int) < (n : Int) := by omega
      have e0 : ((k : Int) + 1).toNat = k + 1 := by omega
      have hwp : IntKind.i64.wrap (k : Int) = (k : Int) := by rw [IntKind.wrap_i64]; omega
      have hq : ∃ q : Bool, (y.1.toList == x.1.toList) = q := ⟨_, rfl⟩
      obtain ⟨q, hq⟩ := hq
      have HT : Hid (∀ w, Calls Try.prog 62 #[.agg #[.string y.1, .string y.2], .agg #[.string x.1, .string x.2]] w fun e w' => e = .returned (.bool q) ∧ ∃ q os', w' = grow (w.drewN q) os') := Lib.hid fun w => by
        have := twice_grown y x w
        rw [hq] at this
        exact this
      have HQ := Lib.hid hq
      have HX := Lib.hid hx
      have HY := Lib.hid hy
      clear hx hy hq
      obtain ⟨x1, x2⟩ := x
      obtain ⟨y1, y2⟩ := y
      cases q with
      | false =>
        go_wp2_with fail
        go_quiet_grown (first | (go_at_fn 62; refine Calls.grown_of (HT.out _)))
        go_wp2
        go_roundw
        case rel =>
          refine ⟨k + 1, by omega, by go_num, fun j a b hj ha hb' => ?_, hb.trans ((below_grow _ _ _).mono hb.size), HTX.out.grow hgr _ _⟩
          by_cases hjk : j < k
          · exact HNO.out j a b hjk ha hb'
          · obtain rfl : j = k := by omega
            rw [HX.out] at ha
            rw [HY.out] at hb'
            cases ha; cases hb'
            exact HQ.out
        case measure => simp [intOf]; omega
      | true =>
        have s1 : ((k : Int) + 1) ≤ (n : Int) := by omega
        have s2 : (n : Int) ≤ (cap : Int) := by omega
        go_wp2_with fail
        go_quiet_grown (first | (go_at_fn 62; refine Calls.grown_of (HT.out _)))
        have hbB : Below B w (grow (wr.drewN nq) osq) := (hb.trans ((below_grow _ _ _).mono hb.size)).mono hBw
        have HTX' := Lib.hid (HTX.out.grow hgr nq osq)
        have hgr' : g < (grow (wr.drewN nq) osq).heap.size := Nat.lt_of_lt_of_le hgr (below_grow _ _ _).size
        clear cx1 cx2 cy1 cy2 HT HQ HX HY HTX HNO hb hgr
        obtain ⟨w1, hw1⟩ : ∃ w1, w1 = grow (wr.drewN nq) osq := ⟨_, rfl⟩
        rw [← hw1] at hbB HTX' hgr' ⊢
        clear hw1
        go_wp2
        obtain ⟨m, hmn⟩ : ∃ m, m = n - (k + 1) := ⟨_, rfl⟩
        rw [← hmn]
        have hm1 : 1 ≤ m := by omega
        have HM := Lib.hid (show m + (k + 1) = n by omega)
        have hm8 : m ≤ 8 := by omega
        clear hmn
        go_loopw [5, 7] (fun i5 i7 wr => ∃ kk p : Nat, i5 = .int .i64 kk ∧ i7 = .int .i64 ((p : Int) + 1) ∧ k + 1 ≤ kk ∧ kk ≤ k + 1 + p ∧ p + 1 ≤ m ∧ Texts wr g o n ∧ Below B w wr ∧ g < wr.heap.size) (fun _ i7 _ => m - (intOf i7).toNat)
        case atStart => exact ⟨k + 1, 0, by go_num, by go_num, by omega, by omega, by omega, HTX'.out, hbB, hgr'⟩
        case round =>
          clear HTX' hbB hgr'
          obtain ⟨kk, p, rfl, rfl, hk1, hk2, hp, htx, hb, hgr⟩ := hrel
          have HTX := Lib.hid htx
          clear htx
          by_cases hpl : p + 1 < m
          · have hplz : (p : Int) + 1 < (m : Int) := by omega
            obtain ⟨x, hcx⟩ := HTX.out.cells (j := k + 1 + p) (by have := HM.out; omega)
            obtain ⟨y, hcy⟩ := HTX.out.cells (j := k + 1 + p + 1) (by have := HM.out; omega)
            rw [show o + (k + 1 + p) * 2 = o + (k + 1) * 2 + p * 2 by omega] at hcx
            rw [show o + (k + 1 + p + 1) * 2 = o + (k + 1) * 2 + (p + 1) * 2 by omega] at hcy
            have cx1 := fun n os => cell_grown (a := ⟨g, o + (k + 1) * 2 + p * 2, none⟩) hgr hcx.1 n os
            have cx2 := fun n os => cell_grown (a := ⟨g, o + (k + 1) * 2 + p * 2 + 1, none⟩) hgr hcx.2 n os
            have cy1 := fun n os => cell_grown (a := ⟨g, o + (k + 1) * 2 + (p + 1) * 2, none⟩) hgr hcy.1 n os
            have cy2 := fun n os => cell_grown (a := ⟨g, o + (k + 1) * 2 + (p + 1) * 2 + 1, none⟩) hgr hcy.2 n os
            clear hcx hcy
            have p0 : (0 : Int) ≤ (p : Int) + 1 := by omega
            have p1 : (p : Int) < (m : Int) := by omega
            have e0 : ((p : Int) + 1).toNat = p + 1 := by omega
            have hwp : IntKind.i64.wrap (p : Int) = (p : Int) := by rw [IntKind.wrap_i64]; omega
            obtain ⟨q, hq⟩ : ∃ q : Bool, (y.1.toList == x.1.toList) = q := ⟨_, rfl⟩
            have HT : Hid (∀ w, Calls Try.prog 62 #[.agg #[.string y.1, .string y.2], .agg #[.string x.1, .string x.2]] w fun e w' => e = .returned (.bool q) ∧ ∃ q os', w' = grow (w.drewN q) os') := Lib.hid fun w => by
              have := twice_grown y x w
              rw [hq] at this
              exact this
            clear hq
            obtain ⟨x1, x2⟩ := x
            obtain ⟨y1, y2⟩ := y
            have hkn : (kk : Int) < (n : Int) := by have := HM.out; omega
            cases q with
            | true =>
              go_wp2_with fail
              go_quiet_grown (first | (go_at_fn 62; refine Calls.grown_of (HT.out _)))
              go_wp2
              go_roundw
              case rel => exact ⟨kk, p + 1, rfl, by go_num, hk1, by omega, by omega, HTX.out.grow hgr _ _, hb.trans ((below_grow _ _ _).mono (by have := hb.size; omega)), Nat.lt_of_lt_of_le hgr (below_grow _ _ _).size⟩
              case measure => simp [intOf]; omega
            | false =>
              go_wp2_with fail
              go_quiet_grown (first | (go_at_fn 62; refine Calls.grown_of (HT.out _)))
              have hb1 : Below B w (grow (wr.drewN nq) osq) := hb.trans ((below_grow _ _ _).mono (by have := hb.size; omega))
              have HTX1 := Lib.hid (HTX.out.grow hgr nq osq)
              have hgr1 : g < (grow (wr.drewN nq) osq).heap.size := Nat.lt_of_lt_of_le hgr (below_grow _ _ _).size
              have c1 := cy1 nq osq
              have c2 := cy2 nq osq
              clear cx1 cx2 cy1 cy2 HT HTX hb hgr
              obtain ⟨w1, hw1⟩ : ∃ w1, w1 = grow (wr.drewN nq) osq := ⟨_, rfl⟩
              rw [← hw1] at hb1 HTX1 hgr1 c1 c2 ⊢
              clear hw1
              obtain ⟨u, v, r1, r2, r3, r4, hafter⟩ := HTX1.out.ready (j := kk) (by have := HM.out; omega) y1 y2
              have HAF := Lib.hid hafter
              clear hafter
              go_wp2
              go_roundw
              case rel => exact ⟨kk + 1, p + 1, by go_num, by go_num, by omega, by omega, by omega, HAF.out, (hb1.trans (below_set _ hB _ _)).trans (below_set _ hB _ _), by rw [size_set, size_set]; exact hgr1⟩
              case measure => simp [intOf]; omega
          · have hplz : ¬ ((p : Int) + 1 < (m : Int)) := by omega
            obtain ⟨w2, hcl, hb2⟩ := clear_run (B := B) HTX.out hB (k := kk) (c := cap - kk) (by have := HM.out; omega) 0
            have hkn : (kk : Int) < (n : Int) := by have := HM.out; omega
            have hkc : kk < cap := by have := HM.out; omega
            go_wp2
            go_ret
            exact ⟨⟨kk, rfl, by have := HM.out; omega⟩, hb.trans hb2⟩
    · exfalso
      obtain ⟨j, x, y, hx, hy, he⟩ := HD.out
      have := (List.getElem?_eq_some_iff.1 hy).1
      have hj := HNO.out j x y (by have := HN.out; omega) hx hy
      rw [he] at hj
      cases hj
end Go.Proofs.Ytpkaejacnblplaa.Label
