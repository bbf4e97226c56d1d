/- What the program's tightest answers of any slots and demand (chapter 13): where the least is left, and what is left there; of memory that was there nothing turns. -/
import Derived.Test.YtbefnophkaepmaaKClos
namespace Go.Proofs.Ytbefnophkaepmaa.Pack
open Go.RowKit Go.Proofs.Ytbefnophkaepmaa.Label Go.Proofs.Ytbefnophkaepmaa.Sel Go.Proofs.Ytbefnophkaepmaa.Vec Go.Proofs.Ytbefnophkaepmaa.Texts

theorem two_boxesV (w : World) (x y : Nat → Int) {w' : World} (h : Below ((w.alloc (boxV x)).alloc (boxV y)).heap.size ((w.alloc (boxV x)).alloc (boxV y)) w') :
    w'.heap[w.heap.size]? = some (boxV x) ∧ w'.heap[w.heap.size + 1]? = some (boxV y) := by
  have e1 : ((w.alloc (boxV x)).alloc (boxV y)).heap[w.heap.size + 1]? = some (boxV y) := by
    have := heap_alloc_new (w.alloc (boxV x)) (boxV y)
    rwa [World.size_alloc] at this
  have e0 : ((w.alloc (boxV x)).alloc (boxV y)).heap[w.heap.size]? = some (boxV x) := by
    have h1 : Below (w.alloc (boxV x)).heap.size (w.alloc (boxV x)) ((w.alloc (boxV x)).alloc (boxV y)) := (Below.refl _ _).alloc (Nat.le_refl _) _
    rw [h1.block _ (by simp)]; exact heap_alloc_new _ _
  exact ⟨(h.block _ (by simp; omega)).trans e0, (h.block _ (by simp)).trans e1⟩
theorem LCells.flat {w : World} {g o j : Nat} {ls : List Slot} {s : Slot} (h : SCells w g o ls) (hj : ls[j]? = some s) :
    ∃ la lc, w.cell? ⟨g, o + j * 6, none⟩ = some (.string s.node) ∧ w.cell? ⟨g, o + j * 6 + 1, none⟩ = some (.int .u64 (s.free 0)) ∧ w.cell? ⟨g, o + j * 6 + 2, none⟩ = some (.int .u64 (s.free 1)) ∧ w.cell? ⟨g, o + j * 6 + 3, none⟩ = some (.int .u64 (s.free 2)) ∧
      w.cell? ⟨g, o + j * 6 + 4, none⟩ = some (.int .u64 (s.free 3)) ∧ w.cell? ⟨g, o + j * 6 + 5, none⟩ = some (.slice la s.labs.length lc) ∧ Row w (.slice la s.labs.length lc) s.labs ∧ s.ok := by
  obtain ⟨lv, h1, h2, h3⟩ := h j s hj
  obtain ⟨la, lc, rfl⟩ := Label.Row.slice h2
  exact ⟨la, lc, h1 0 _ rfl, h1 1 _ rfl, h1 2 _ rfl, h1 3 _ rfl, h1 4 _ rfl, h1 5 _ rfl, h2, h3⟩
theorem cand_nil (d : V) (s : Slot) : cand d (seen [] s) = fits4 d s.free := by unfold cand; rw [seen_nil]; exact Bool.true_and _

set_option maxHeartbeats 4000000 in
set_option maxRecDepth 100000 in
theorem tightest_any (v : Value) (ls : List Slot) (d : Nat → Int) (w : World) (hv : SlRow w v ls) (hd : InRange d) :
    Calls Try.prog 26 #[v, vec (d 0) (d 1) (d 2) (d 3)] w fun e w' =>
      e = .returned (.tuple #[.int .i64 (placeOf (bestTo d (seenAll [] ls) ls.length)), vec (leastOf (bestTo d (seenAll [] ls) ls.length) 0) (leastOf (bestTo d (seenAll [] ls) ls.length) 1) (leastOf (bestTo d (seenAll [] ls) ls.length) 2) (leastOf (bestTo d (seenAll [] ls) ls.length) 3)]) ∧ Below w.heap.size w w' := by
  have hl := hv.len
  obtain ⟨a, cap, rfl, _, _⟩ := hv.slice
  obtain ⟨W, hW⟩ : ∃ W, W = (w.alloc (boxV d)).alloc (boxV fun _ => 0) := ⟨_, rfl⟩
  have hwW : Below w.heap.size w W := by rw [hW]; exact ((Below.refl _ _).alloc (Nat.le_refl _) _).alloc (by simp) _
  have hWs : W.heap.size = w.heap.size + 2 := by rw [hW]; simp
  have hb0 := two_boxesV w d (fun _ => 0) (Below.refl _ _)
  rw [← hW] at hb0
  have HB0 := Lib.hid hb0
  have HV := Lib.hid hv
  have HD := Lib.hid hd
  have HW := Lib.hid hW
  unfold vec
  unfold boxV at HW
  clear hv hd hW hb0
  go_enter Try.func26, Try.ntmps26
  go_upto_region 1 with fail
  rw [← HW.out]
  clear HW
  go_wp2
  go_loopw [4, 12] (fun r t wr => ∃ k : Nat, k ≤ ls.length ∧ t = .int .i64 k ∧ r = .int .i64 (placeOf (bestTo d (seenAll [] ls) k)) ∧ wr.heap[w.heap.size + 1]? = some (boxV (leastOf (bestTo d (seenAll [] ls) k))) ∧ Below (w.heap.size + 1) W wr) (fun _ t _ => ls.length - (intOf t).toNat)
  case atStart => exact ⟨0, Nat.zero_le _, rfl, rfl, HB0.out.2, Below.refl _ _⟩
  case round =>
    obtain ⟨k, hk, rfl, rfl, hlo, hb⟩ := hrel
    by_cases hlt : k < ls.length
    · have hltz : (k : Int) < (ls.length : Int) := by omega
      have hk0 : (0 : Int) ≤ (k : Int) := by omega
      obtain ⟨s, hs⟩ : ∃ s, ls[k]? = some s := ⟨_, List.getElem?_eq_getElem hlt⟩
      have hbw : Below w.heap.size w wr := hwW.trans (hb.mono (by omega))
      obtain ⟨g, o, rfl, hg, hcell⟩ := HV.out.cells hlt
      obtain ⟨la, lc, p0, p1, p2, p3, p4, p5, hlr, hok⟩ := LCells.flat (hcell.below hg hbw) hs
      have hWr : w.heap.size + 2 ≤ wr.heap.size := by have := hb.size; omega
      have hbx : wr.heap[w.heap.size]? = some (boxV d) := (hb.block _ (by omega)).trans HB0.out.1
      obtain ⟨W2, hW2⟩ : ∃ W2, W2 = wr.alloc (boxS s (.slice la s.labs.length lc)) := ⟨_, rfl⟩
      have h2 : Below wr.heap.size wr W2 := by rw [hW2]; exact (Below.refl _ _).alloc (Nat.le_refl _) _
      have hS : W2.heap[wr.heap.size]? = some (boxS s (.slice la s.labs.length lc)) := by rw [hW2]; exact heap_alloc_new _ _
      obtain ⟨_, b1, b2, b3, b4, _⟩ := cellsB hS
      have hbx2 : W2.heap[w.heap.size]? = some (boxV d) := (h2.block _ (by omega)).trans hbx
      obtain ⟨d0, d1, d2, d3, _⟩ := cells4V hbx2
      have HC := Lib.hid (vecSub_left s.free d hok.free HD.out W2)
      have HW2 := Lib.hid hW2
      have HLo := Lib.hid hlo
      have hstep := bestTo_succ (d := d) (seenAll_get (ts := []) hs)
      have hcand := cand_nil d s
      obtain ⟨b, hbe⟩ : ∃ b, bestTo d (seenAll [] ls) k = b := ⟨_, rfl⟩
      rw [hbe] at hstep HLo ⊢
      obtain ⟨z, hz⟩ : ∃ z, leftOf s.free d = z := ⟨_, rfl⟩
      obtain ⟨ft, hft⟩ : ∃ ft, fits4 d s.free = ft := ⟨_, rfl⟩
      rw [hz, hft] at HC
      rw [hft] at hcand
      have HSt := Lib.hid hstep
      have HCa := Lib.hid hcand
      have HZ := Lib.hid (show ft = true → z = sub4 s.free d from fun h => by rw [← hz]; unfold leftOf; rw [hft, if_pos h])
      have H2 := Lib.hid h2
      unfold boxS at HW2
      clear hstep hcand hz hft hs hcell hlr hok hlo hbx hbx2 hS hW2 h2
      go_upto_region 5 with fail
      rw [← HW2.out]
      clear HW2 p0 p1 p2 p3 p4 p5
      go_wp2_with fail
      (with_reducible refine HC.out.mono ?_)
      rintro _ wc ⟨rfl, hbc⟩
      have hcs := hbc.size
      obtain ⟨W3, hW3⟩ : ∃ W3, W3 = wc.alloc (boxV z) := ⟨_, rfl⟩
      have h3 : Below wc.heap.size wc W3 := by rw [hW3]; exact (Below.refl _ _).alloc (Nat.le_refl _) _
      have hPz : W3.heap[wc.heap.size]? = some (boxV z) := by rw [hW3]; exact heap_alloc_new _ _
      have hs2 := H2.out.size
      have h13 : Below wr.heap.size wr W3 := (H2.out.trans (hbc.mono hs2)).trans (h3.mono (by omega))
      have hb3 : Below (w.heap.size + 1) W W3 := hb.trans (h13.mono (by omega))
      have HL3 := Lib.hid ((h13.block _ (by omega)).trans HLo.out)
      have HP3 := Lib.hid hPz
      have HW3 := Lib.hid hW3
      have hP3 : wc.heap.size < W3.heap.size := (Array.getElem?_eq_some_iff.1 hPz).1
      have hn3 : w.heap.size + 1 < wc.heap.size := by omega
      unfold boxV at HW3
      clear hW3 hPz HC b1 b2 b3 b4 d0 d1 d2 d3 h13 h3 HLo
      go_upto_region 6 with fail
      rw [← HW3.out]
      clear HW3
      have stay : ft = false → Hid (bestTo d (seenAll [] ls) (k + 1) = b) := fun hc => Lib.hid (by
        rw [HSt.out]; unfold bestStep; rw [HCa.out, hc]; rfl)
      cases ft with
      | false =>
        have HN := stay rfl
        clear stay
        go_wp2
        go_roundw
        case rel => exact ⟨k + 1, by omega, by go_num, by rw [HN.out], by rw [HN.out]; exact HL3.out, hb3⟩
        case measure => simp [intOf]; omega
      | true =>
        have HZs := Lib.hid (HZ.out rfl)
        clear stay
        cases b with
        | none =>
          have HN : Hid (bestTo d (seenAll [] ls) (k + 1) = some (k, z)) := Lib.hid (by
            rw [HSt.out]; unfold bestStep; rw [if_pos HCa.out, HZs.out]; rfl)
          obtain ⟨q0, q1, q2, q3, _⟩ := cells4V HP3.out
          obtain ⟨v0, v1, v2, v3, y0, y1, y2, y3⟩ := cells4V HL3.out
          have HS4 := Lib.hid (set4_heapV HL3.out z)
          have HB4 := Lib.hid (set4_below (T := w.heap.size + 1) (a := z 0) (b := z 1) (c := z 2) (d := z 3) hb3 (Nat.le_refl _))
          unfold placeOf
          go_wp2_with fail
          go_region
          all_goals
            go_wp2
            go_roundw
            case rel => exact ⟨k + 1, by omega, by go_num, by rw [HN.out]; rfl, by rw [HN.out]; exact HS4.out, HB4.out.drew⟩
            case measure => simp [intOf]; omega
        | some pr =>
          obtain ⟨j, wv⟩ := pr
          unfold leastOf at HL3
          simp only at HL3
          have hj0 : ¬ (j : Int) < 0 := by omega
          have hj0b : decide ((j : Int) < 0) = false := decide_eq_false hj0
          obtain ⟨q0, q1, q2, q3, _⟩ := cells4V HP3.out
          obtain ⟨v0, v1, v2, v3, y0, y1, y2, y3⟩ := cells4V HL3.out
          have HO := Lib.hid (order_any z wv W3)
          obtain ⟨od, hod⟩ : ∃ od, ordV z wv = od := ⟨_, rfl⟩
          have hlt4 := ordV_lt (x := z) (y := wv)
          rw [hod] at HO hlt4
          unfold vec at HO
          unfold placeOf
          cases hl4 : lt4 z wv with
          | true =>
            have hneg : od < 0 := hlt4.2 hl4
            have hnegb : decide (od < 0) = true := decide_eq_true hneg
            have HN : Hid (bestTo d (seenAll [] ls) (k + 1) = some (k, z)) := Lib.hid (by
              rw [HSt.out]; unfold bestStep; rw [if_pos HCa.out]
              show (if lt4 (sub4 s.free d) wv = true then some (k, sub4 s.free d) else some (j, wv)) = _
              rw [← HZs.out, if_pos hl4])
            clear hl4 hod hlt4
            go_wp2_with fail
            (with_reducible refine HO.out.mono ?_)
            rintro _ we ⟨rfl, hbe2⟩
            have hes := hbe2.size
            have HLe := Lib.hid ((hbe2.block _ (by omega)).trans HL3.out)
            have HPe := Lib.hid ((hbe2.block _ (by omega)).trans HP3.out)
            have hbe1 := hb3.trans (hbe2.mono (by omega))
            clear q0 q1 q2 q3 v0 v1 v2 v3 y0 y1 y2 y3 HO
            obtain ⟨q0, q1, q2, q3, _⟩ := cells4V HPe.out
            obtain ⟨v0, v1, v2, v3, y0, y1, y2, y3⟩ := cells4V HLe.out
            have HS4 := Lib.hid (set4_heapV HLe.out z)
            have HB4 := Lib.hid (set4_below (T := w.heap.size + 1) (a := z 0) (b := z 1) (c := z 2) (d := z 3) hbe1 (Nat.le_refl _))
            go_wp2_with fail
            go_region
            all_goals
              go_wp2
              go_roundw
              case rel => exact ⟨k + 1, by omega, by go_num, by rw [HN.out]; rfl, by rw [HN.out]; exact HS4.out, HB4.out.drew⟩
              case measure => simp [intOf]; omega
          | false =>
            have hneg : ¬ od < 0 := fun h => by rw [hlt4.1 h] at hl4; cases hl4
            have hnegb : decide (od < 0) = false := decide_eq_false hneg
            have HN : Hid (bestTo d (seenAll [] ls) (k + 1) = some (j, wv)) := Lib.hid (by
              rw [HSt.out]; unfold bestStep; rw [if_pos HCa.out]
              show (if lt4 (sub4 s.free d) wv = true then some (k, sub4 s.free d) else some (j, wv)) = _
              rw [← HZs.out, if_neg (by rw [hl4]; simp)])
            clear hl4 hod hlt4
            go_wp2_with fail
            (with_reducible refine HO.out.mono ?_)
            rintro _ we ⟨rfl, hbe2⟩
            have hes := hbe2.size
            have HLe := Lib.hid ((hbe2.block _ (by omega)).trans HL3.out)
            have hbe1 := hb3.trans (hbe2.mono (by omega))
            clear q0 q1 q2 q3 v0 v1 v2 v3 y0 y1 y2 y3 HO
            go_wp2
            go_roundw
            case rel => exact ⟨k + 1, by omega, by go_num, by rw [HN.out]; rfl, by rw [HN.out]; exact HLe.out, hbe1⟩
            case measure => simp [intOf]; omega
    · have hltz : ¬ (k : Int) < (ls.length : Int) := by omega
      obtain rfl : k = ls.length := by omega
      have hbw : Below w.heap.size w wr := hwW.trans (hb.mono (by omega))
      obtain ⟨b, hbe⟩ : ∃ b, bestTo d (seenAll [] ls) ls.length = b := ⟨_, rfl⟩
      rw [hbe] at hlo ⊢
      obtain ⟨z, hz⟩ : ∃ z, leastOf b = z := ⟨_, rfl⟩
      rw [hz] at hlo
      have HB := Lib.hid hbe
      have HZ := Lib.hid hz
      obtain ⟨v0, v1, v2, v3, y0, y1, y2, y3⟩ := cells4V hlo
      have HB4 := Lib.hid (set4_below (T := w.heap.size + 1) (a := z 0) (b := z 1) (c := z 2) (d := z 3) hbw (Nat.le_succ _))
      have HS4 := Lib.hid (set4_heapV hlo z)
      clear hlo hz hbe
      go_wp2_with fail
      go_region
      all_goals
        go_wp2
        obtain ⟨n0, n1, n2, n3, _⟩ := cells4V HS4.out
        unfold set4 at n0 n1 n2 n3
        refine bodyPost_ret (v := .tuple #[.int .i64 (placeOf b), .agg #[.int .u64 (z 0), .int .u64 (z 1), .int .u64 (z 2), .int .u64 (z 3)]]) (by simp [results, Try.results26, go_sem, n0, n1, n2, n3]) rfl ?_
        exact ⟨by rw [HB.out, HZ.out], HB4.out.drew⟩
end Go.Proofs.Ytbefnophkaepmaa.Pack
