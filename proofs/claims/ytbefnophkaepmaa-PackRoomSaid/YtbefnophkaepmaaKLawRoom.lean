/- PackRoom: room is the sum of what each slot that matches holds, up to what is asked for, in any order: the walk, over what the calls say. -/
import Derived.Test.YtbefnophkaepmaaKTurn
namespace Go.Proofs.Ytbefnophkaepmaa.Pack
open Go.RowKit Go.Proofs.Ytbefnophkaepmaa.Label Go.Proofs.Ytbefnophkaepmaa.Sel Go.Proofs.Ytbefnophkaepmaa.Vec Go.Proofs.Ytbefnophkaepmaa.Texts

set_option maxHeartbeats 4000000 in
set_option maxRecDepth 100000 in
theorem packRoom_any (S : Says) (v u : Value) (ls : List Slot) (ts : List Tm) (d : Nat → Int) (n : Int) (w : World) (hv : SlRow w v ls) (hu : TRow w u ts) (hf : Sel.Fair ts) (hd : InRange d) (hz : ls.length * 72 ≤ 140737488355328) (hn : 0 ≤ n ∧ n ≤ 255) :
    Calls Try.prog 8 #[v, u, vec (d 0) (d 1) (d 2) (d 3), .int .u8 n] w fun e w' => e = .returned (.bool true) ∧ Below w.heap.size w w' := by
  have hl := hv.len
  obtain ⟨a, cap, rfl, _, _⟩ := hv.slice
  obtain ⟨W, hW⟩ : ∃ W, W = w.alloc (boxV d) := ⟨_, rfl⟩
  have hwW : Below w.heap.size w W := by rw [hW]; exact (Below.refl _ _).alloc (Nat.le_refl _) _
  have hWs : W.heap.size = w.heap.size + 1 := by rw [hW]; simp
  have HB := Lib.hid (show W.heap[w.heap.size]? = some (boxV d) from by rw [hW]; exact heap_alloc_new _ _)
  have HV0 := Lib.hid (hv.below hwW)
  have HV := Lib.hid (fun w' (h : Below W.heap.size W w') => HV0.out.below h)
  have HU := Lib.hid (fun w' (h : Below W.heap.size W w') => (hu.below hwW).below h)
  have HX := Lib.hid (examples_any S W)
  have HF := Lib.hid hf
  have HD := Lib.hid hd
  obtain ⟨c, hc⟩ : ∃ c : Nat, (c : Int) = n % 20 := ⟨(n % 20).toNat, by omega⟩
  have hc20 : c < 20 := by omega
  have CRoom := Lib.hid (fun (x : Value) (xs : List Slot) (q : Int) w' (hx : SlRow w' x xs) (hxl : xs.length * 72 ≤ 140737488355328) (hb : Below W.heap.size W w') (hq : -9223372036854775808 ≤ q ∧ q ≤ 9223372036854775807) => S.room x u xs ts d q w' hx (HU.out w' hb) hf hd hxl hq)
  have HZ := Lib.hid hz
  have HW := Lib.hid hW
  unfold vec at CRoom
  unfold vec
  unfold boxV at HW
  clear hv hu hf hd hz hW S
  go_enter Try.func8, Try.ntmps8
  go_upto_region 1 with fail
  rw [← HW.out]
  clear HW
  go_wp2_with fail
  (with_reducible refine HX.out.mono ?_)
  rintro _ w1 ⟨rfl, b1⟩
  have H1 := Lib.hid b1
  clear HX b1
  go_wp2_with fail
  rw [← hc]
  clear hc
  go_loopw [11, 12, 13] (fun r tv t wr => ∃ (k : Nat) (xs : List SV), k ≤ ls.length ∧ t = .int .i64 k ∧ r = .int .i64 (roomN d c (seenAll ts (ls.take k)) : Int) ∧ xs.map (·.1) = (ls.take k).reverse ∧ SMine 47 wr W.heap.size tv xs ∧ (∀ p ∈ xs, Row W p.2 p.1.labs ∧ p.1.ok) ∧ Below W.heap.size W wr) (fun _ _ t _ => ls.length - (intOf t).toNat)
  case atStart => exact ⟨0, [], Nat.zero_le _, rfl, rfl, rfl, SMine.nil _ _ _, fun p hp => by simp at hp, H1.out⟩
  case round =>
    obtain ⟨k, xs, hk, rfl, rfl, hxm, hmine, hxr, hb⟩ := hrel
    by_cases hlt : k < ls.length
    · have hltz : (k : Int) < (ls.length : Int) := by omega
      have hk0 : (0 : Int) ≤ (k : Int) := by omega
      obtain ⟨s, hs⟩ : ∃ s, ls[k]? = some s := ⟨_, List.getElem?_eq_getElem hlt⟩
      obtain ⟨g, o, rfl, hg, hcell⟩ := HV0.out.cells hlt
      obtain ⟨la, lc, q0, q1, q2, q3, q4, q5, hlr, hok⟩ := hcell.six hs
      have HCs := Lib.hid (fun w' (h : Below W.heap.size W w') => (⟨(h.cell (p := ⟨g, o + k * 6, none⟩) hg).trans q0, (h.cell (p := ⟨g, o + k * 6 + 1, none⟩) hg).trans q1, (h.cell (p := ⟨g, o + k * 6 + 1 + 1, none⟩) hg).trans q2, (h.cell (p := ⟨g, o + k * 6 + 1 + 2, none⟩) hg).trans q3, (h.cell (p := ⟨g, o + k * 6 + 1 + 3, none⟩) hg).trans q4, (h.cell (p := ⟨g, o + k * 6 + 5, none⟩) hg).trans q5⟩ :
          w'.cell? ⟨g, o + k * 6, none⟩ = some (.string s.node) ∧ w'.cell? ⟨g, o + k * 6 + 1, none⟩ = some (.int .u64 (s.free 0)) ∧ w'.cell? ⟨g, o + k * 6 + 1 + 1, none⟩ = some (.int .u64 (s.free 1)) ∧ w'.cell? ⟨g, o + k * 6 + 1 + 2, none⟩ = some (.int .u64 (s.free 2)) ∧ w'.cell? ⟨g, o + k * 6 + 1 + 3, none⟩ = some (.int .u64 (s.free 3)) ∧ w'.cell? ⟨g, o + k * 6 + 5, none⟩ = some (.slice la s.labs.length lc)))
      have HC := Lib.hid (match_slot HF.out hok wr (HU.out _ hb) (hlr.below hb))
      have hrr : roomN d c (seenAll ts (ls.take (k + 1))) = min (roomN d c (seenAll ts (ls.take k)) + slotN d c (seen ts s)) c := by
        have := roomN_take (d := d) (n := c) (k := k) (seenAll_get (ts := ts) hs)
        unfold seenAll at *
        rw [← List.map_take, ← List.map_take] at this
        exact this
      have hRM : roomN d c (seenAll ts (ls.take k)) ≤ c := Nat.min_le_right _ _
      obtain ⟨R, hR⟩ : ∃ R, roomN d c (seenAll ts (ls.take k)) = R := ⟨_, rfl⟩
      rw [hR] at hrr hRM ⊢
      have HOk := Lib.hid hok
      have HRow := Lib.hid (And.intro hlr hok)
      have HS := Lib.hid hs
      have HXM := Lib.hid hxm
      have HXl : Hid (xs.length = k) := Lib.hid (by have := congrArg List.length hxm; rw [List.length_map, List.length_reverse, List.length_take] at this; omega)
      have HMi := Lib.hid hmine
      have HXr := Lib.hid hxr
      obtain ⟨ta, tc, rfl⟩ := hmine.slice
      have hgr : g < wr.heap.size := by have := hb.size; omega
      obtain ⟨_, p1, p2, p3, p4, p5⟩ := HCs.out _ hb
      clear hlr hok hcell hs hR hxm hmine hxr q0 q1 q2 q3 q4 q5
      cases hm : (seen ts s).1 with
      | false =>
        rw [hm] at HC
        have HN : Hid (roomN d c (seenAll ts (ls.take (k + 1))) = R) := Lib.hid (by
          have : slotN d c (seen ts s) = 0 := by unfold slotN; rw [hm]; rfl
          rw [hrr, this]; omega)
        clear hrr hm p1 p2 p3 p4
        go_wp2_with fail
        (with_reducible refine HC.out.mono ?_)
        rintro _ ws ⟨rfl, hbq⟩
        have HBs := Lib.hid hbq
        have HQ := Lib.hid (hb.trans (hbq.mono hb.size))
        clear HC p5 hbq
        have HC6 := HCs.out _ HQ.out
        obtain ⟨p0, p1, p2, p3, p4, p5⟩ := HC6
        have hqs : W.heap.size ≤ ws.heap.size := HQ.out.size
        obtain ⟨C, hC⟩ : ∃ C, C = ws.alloc (.cells #[.string s.node, .int .u64 (s.free 0), .int .u64 (s.free 1), .int .u64 (s.free 2), .int .u64 (s.free 3), .slice la s.labs.length lc] 47) := ⟨_, rfl⟩
        have hCb : Below ws.heap.size ws C := by rw [hC]; exact (Below.refl _ _).alloc (Nat.le_refl _) _
        have hone := SMine.one 47 ws hqs s (.slice la s.labs.length lc)
        rw [← hC] at hone
        obtain ⟨v5, w5, hrun, hm5, hb5⟩ := sappend Try.underlying22 infoS hone ((HMi.out.below HBs.out).below hCb).read (fun p hp => (by obtain ⟨x, y, e⟩ := Label.Row.slice (HXr.out p hp).1; exact ⟨x, _, y, e⟩)) (by rw [List.length_cons, List.length_nil]; have := HXl.out; have := HZ.out; omega) (by have := hCb.size; omega) 22
        have hb6 := (HQ.out.trans (hCb.mono hqs)).trans hb5
        have HM5 := Lib.hid hm5
        have HXM5 : Hid (([(s, Value.slice la s.labs.length lc)] ++ xs).map (·.1) = (ls.take (k + 1)).reverse) := Lib.hid (by rw [List.map_append, HXM.out, List.take_add_one, HS.out, List.reverse_append]; rfl)
        have HXR5 : Hid (∀ p ∈ [(s, Value.slice la s.labs.length lc)] ++ xs, Row W p.2 p.1.labs ∧ p.1.ok) := Lib.hid (fun p hp => by
          rcases List.mem_append.1 hp with hp | hp
          · rw [List.mem_singleton.1 hp]; exact HRow.out
          · exact HXr.out p hp)
        rw [hC] at hrun
        clear hC hCb hone hm5 hb5 hqs
        go_wp2_with (at_builtin; refine Lib.wpList_append_run _ rfl _ _ _ _ rfl _ _ rfl rfl _ _ hrun ?_)
        go_roundw
        case rel => exact ⟨k + 1, _, by omega, by go_num, by rw [HN.out], HXM5.out, HM5.out, HXR5.out, hb6⟩
        case measure => simp [intOf]; omega
      | true =>
        rw [hm] at HC
        have hsl : slotN d c (seen ts s) = holdN s.free d c := by unfold slotN; rw [hm]; rfl
        rw [hsl] at hrr
        have hhold := holdN_le s.free d c
        have HH := Lib.hid (fun w => (by have := holds_any s.free d HOk.out.free HD.out (c : Int) (c : Int) (by omega) (by omega) (by split <;> omega) w; rw [cnt_hold HOk.out.free HD.out c] at this; exact this : Calls Try.prog 21 #[vec (s.free 0) (s.free 1) (s.free 2) (s.free 3), vec (d 0) (d 1) (d 2) (d 3), .int .i64 (c : Int)] w fun e w' => e = .returned (.int .i64 (holdN s.free d c : Int)) ∧ Below w.heap.size w w'))
        obtain ⟨hh, hhe⟩ : ∃ hh, holdN s.free d c = hh := ⟨_, rfl⟩
        rw [hhe] at HH hrr hhold
        unfold vec at HH
        obtain ⟨A, hA⟩ : ∃ A : Nat, R + hh = A := ⟨_, rfl⟩
        have hwadd : IntKind.i64.wrap ((R : Int) + (hh : Int)) = (A : Int) := by rw [IntKind.wrap_i64] <;> omega
        rw [hA] at hrr
        obtain ⟨z, hz⟩ : ∃ z, min A c = z := ⟨_, rfl⟩
        have hmin := min_int (A : Int) (c : Int) (z : Int) (by omega)
        rw [hz] at hrr
        have HN := Lib.hid hrr
        clear hrr hm hsl hhe hA hz p1 p2 p3 p4
        go_wp2_with fail
        (with_reducible refine HC.out.mono ?_)
        rintro _ wq ⟨rfl, hbq⟩
        have hb2 := hb.trans (hbq.mono hb.size)
        have hgq : g < wq.heap.size := by have := hb2.size; omega
        obtain ⟨_, r1, r2, r3, r4, _⟩ := HCs.out _ hb2
        have hwq : w.heap.size < wq.heap.size := by have := hb2.size; omega
        obtain ⟨d0, d1, d2, d3, _⟩ := cells4V ((hb2.block _ (by omega : w.heap.size < W.heap.size)).trans HB.out)
        have l1 : ∀ q : Quiet.Behind wq, q.world.cell? ⟨g, o + k * 6 + 1, none⟩ = _ := Quiet.cell hgq r1
        have l2 : ∀ q : Quiet.Behind wq, q.world.cell? ⟨g, o + k * 6 + 1 + 1, none⟩ = _ := Quiet.cell hgq r2
        have l3 : ∀ q : Quiet.Behind wq, q.world.cell? ⟨g, o + k * 6 + 1 + 2, none⟩ = _ := Quiet.cell hgq r3
        have l4 : ∀ q : Quiet.Behind wq, q.world.cell? ⟨g, o + k * 6 + 1 + 3, none⟩ = _ := Quiet.cell hgq r4
        have e0 : ∀ q : Quiet.Behind wq, q.world.cell? ⟨w.heap.size, 0, none⟩ = _ := Quiet.cell hwq d0
        have e1 : ∀ q : Quiet.Behind wq, q.world.cell? ⟨w.heap.size, 1, none⟩ = _ := Quiet.cell hwq d1
        have e2 : ∀ q : Quiet.Behind wq, q.world.cell? ⟨w.heap.size, 2, none⟩ = _ := Quiet.cell hwq d2
        have e3 : ∀ q : Quiet.Behind wq, q.world.cell? ⟨w.heap.size, 3, none⟩ = _ := Quiet.cell hwq d3
        clear HC p5 r1 r2 r3 r4 d0 d1 d2 d3
        go_wp2_with fail
        refine Quiet.region (by kernel_rfl) (by kernel_rfl) ?_
        repeat (go_big_quiet_step (first | (go_at_call 21; (with_reducible exact Quiet.calls (HH.out _)))))
        refine wpQuiet_nil ?_
        rintro _ ⟨pq, rfl⟩
        have hbs := hbq.trans (pq.below.mono hbq.size)
        have hq := hb2.trans (pq.below.mono hb2.size)
        generalize pq.world = ws at hq hbs ⊢
        have HBs := Lib.hid hbs
        have HQ := Lib.hid hq
        clear l1 l2 l3 l4 e0 e1 e2 e3 hq hbs hbq hb2 hmin hwadd
        have HC6 := HCs.out _ HQ.out
        obtain ⟨p0, p1, p2, p3, p4, p5⟩ := HC6
        have hqs : W.heap.size ≤ ws.heap.size := HQ.out.size
        obtain ⟨C, hC⟩ : ∃ C, C = ws.alloc (.cells #[.string s.node, .int .u64 (s.free 0), .int .u64 (s.free 1), .int .u64 (s.free 2), .int .u64 (s.free 3), .slice la s.labs.length lc] 47) := ⟨_, rfl⟩
        have hCb : Below ws.heap.size ws C := by rw [hC]; exact (Below.refl _ _).alloc (Nat.le_refl _) _
        have hone := SMine.one 47 ws hqs s (.slice la s.labs.length lc)
        rw [← hC] at hone
        obtain ⟨v5, w5, hrun, hm5, hb5⟩ := sappend Try.underlying22 infoS hone ((HMi.out.below HBs.out).below hCb).read (fun p hp => (by obtain ⟨x, y, e⟩ := Label.Row.slice (HXr.out p hp).1; exact ⟨x, _, y, e⟩)) (by rw [List.length_cons, List.length_nil]; have := HXl.out; have := HZ.out; omega) (by have := hCb.size; omega) 22
        have hb6 := (HQ.out.trans (hCb.mono hqs)).trans hb5
        have HM5 := Lib.hid hm5
        have HXM5 : Hid (([(s, Value.slice la s.labs.length lc)] ++ xs).map (·.1) = (ls.take (k + 1)).reverse) := Lib.hid (by rw [List.map_append, HXM.out, List.take_add_one, HS.out, List.reverse_append]; rfl)
        have HXR5 : Hid (∀ p ∈ [(s, Value.slice la s.labs.length lc)] ++ xs, Row W p.2 p.1.labs ∧ p.1.ok) := Lib.hid (fun p hp => by
          rcases List.mem_append.1 hp with hp | hp
          · rw [List.mem_singleton.1 hp]; exact HRow.out
          · exact HXr.out p hp)
        rw [hC] at hrun
        clear hC hCb hone hm5 hb5 hqs
        go_wp2_with (at_builtin; refine Lib.wpList_append_run _ rfl _ _ _ _ rfl _ _ rfl rfl _ _ hrun ?_)
        go_roundw
        case rel => exact ⟨k + 1, _, by omega, by go_num, by rw [HN.out], HXM5.out, HM5.out, HXR5.out, hb6⟩
        case measure => simp [intOf]; omega
    · have hltz : ¬ (k : Int) < (ls.length : Int) := by omega
      obtain rfl : k = ls.length := by omega
      have hxm' : xs.map (·.1) = ls.reverse := by rw [hxm, List.take_length]
      have hsl : SlRow wr _ ls.reverse := (own_lrow (w0 := W) hmine hxm' hxr).slrow hb
      have hzr : ls.reverse.length * 72 ≤ 140737488355328 := by rw [List.length_reverse]; exact HZ.out
      have HT := Lib.hid (fun w' (h : Below wr.heap.size wr w') => hsl.below h)
      have R1 := Lib.hid (fun w' (h : Below W.heap.size W w') => CRoom.out _ ls (c : Int) w' (HV.out w' h) HZ.out h (by omega))
      have R2 := Lib.hid (fun w' (h : Below W.heap.size W w') (h2 : Below wr.heap.size wr w') => (by
        have := CRoom.out _ ls.reverse (c : Int) w' (HT.out w' h2) hzr h (by omega)
        rw [show seenAll ts ls.reverse = (seenAll ts ls).reverse from by unfold seenAll; rw [List.map_reverse], roomN_reverse] at this
        exact this))
      have R3 := Lib.hid (fun w' (h : Below W.heap.size W w') => (by
        have := CRoom.out _ ls (-5) w' (HV.out w' h) HZ.out h (by omega)
        rw [show (-5 : Int).toNat = 0 from rfl, roomN_zero] at this
        exact this))
      obtain ⟨m, hm⟩ : ∃ m, roomN d c (seenAll ts ls) = m := ⟨_, rfl⟩
      rw [show (c : Int).toNat = c from rfl, hm] at R1
      rw [show (c : Int).toNat = c from rfl, hm] at R2
      rw [List.take_length, hm]
      obtain ⟨d0, d1, d2, d3, _⟩ := cells4V ((hb.block _ (by omega : w.heap.size < W.heap.size)).trans HB.out)
      clear hxm hmine hxr hxm' hsl hzr hm
      go_wp2_with fail
      (with_reducible refine (R1.out _ hb).mono ?_)
      rintro _ y1 ⟨rfl, f1⟩
      have k1 := hb.trans (f1.mono hb.size)
      clear d0 d1 d2 d3
      obtain ⟨d0, d1, d2, d3, _⟩ := cells4V ((k1.block _ (by omega : w.heap.size < W.heap.size)).trans HB.out)
      go_wp2_with fail
      (with_reducible refine (R2.out _ k1 f1).mono ?_)
      rintro _ y2 ⟨rfl, f2⟩
      have k2 := k1.trans (f2.mono k1.size)
      clear d0 d1 d2 d3
      obtain ⟨d0, d1, d2, d3, _⟩ := cells4V ((k2.block _ (by omega : w.heap.size < W.heap.size)).trans HB.out)
      go_wp2_with fail
      (with_reducible refine (R3.out _ k2).mono ?_)
      rintro _ y3 ⟨rfl, f3⟩
      have HEnd := Lib.hid (hwW.trans ((k2.trans (f3.mono k2.size)).mono hwW.size))
      clear d0 d1 d2 d3 k1 k2 f1 f2 f3
      go_wp2
      go_ret
      exact ⟨rfl, HEnd.out⟩
end Go.Proofs.Ytbefnophkaepmaa.Pack
