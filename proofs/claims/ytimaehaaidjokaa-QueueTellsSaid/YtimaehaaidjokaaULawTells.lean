/- QueueTells: of any queue, any entries all is told as the chapter says: the walk, over what the calls say. -/
import Derived.Test.YtimaehaaidjokaaUIds
namespace Go.Proofs.Ytimaehaaidjokaa.Queue
open Go.RowKit

theorem pushL_len (q : List E) (x : E) (h : q.length ≤ 8796093022207) : (pushL q x).1.length ≤ 8796093022208 := by
  have := push_len q x
  omega
theorem takeL_len (q : List E) (i : Nat) : (takeL q i).1.length ≤ q.length := by
  unfold takeL
  split
  · exact remL_le _ _
  · exact Nat.le_refl _

set_option maxHeartbeats 4000000 in
set_option maxRecDepth 100000 in
theorem queueTells_any (S : Says) (v : Value) (ls : List E) (a b : E) (i : Nat) (w : World) (hv : Row w v ls) (ha : Fair a) (hb : Fair b) (hi : Word i) (hl : ls.length ≤ 8796093022207) :
    Calls Try.prog 3 #[v, val a, val b, .int .u64 (i : Int)] w fun e w' => e = .returned (.bool true) ∧ Below w.heap.size w w' := by
  obtain ⟨W, hW⟩ : ∃ W, W = (w.alloc (.cells #[.int .u64 (a.1 : Int), .int .i64 a.2] 25)).alloc (.cells #[.int .u64 (b.1 : Int), .int .i64 b.2] 25) := ⟨_, rfl⟩
  have hwW : Below w.heap.size w W := by rw [hW]; exact ((Below.refl _ _).alloc (Nat.le_refl _) _).alloc (by simp) _
  have HBa := Lib.hid (fun w' (h : Below W.heap.size W w') => box_cells 25 w w' a (by
    rw [hW] at h
    exact ((Below.refl _ _).alloc (by simp) _).trans (h.mono (by simp))))
  have HBb := Lib.hid (fun w' (h : Below W.heap.size W w') => box_cells 25 (w.alloc (.cells #[.int .u64 (a.1 : Int), .int .i64 a.2] 25)) w' b (by
    rw [hW] at h
    exact h))
  simp only [World.size_alloc] at HBa HBb
  have HV := Lib.hid (hv.below hwW)
  have HX := Lib.hid (examples_any S W)
  have HS := Lib.hid S
  have HW := Lib.hid hW
  obtain ⟨pr, hpr⟩ : ∃ r, pushL ls a = r := ⟨_, rfl⟩
  obtain ⟨tr, htr⟩ : ∃ r, takeL ls i = r := ⟨_, rfl⟩
  have hpl := pushL_len ls a hl
  have htl := takeL_len ls i
  rw [hpr] at hpl
  rw [htr] at htl
  obtain ⟨pq, pc⟩ := pr
  obtain ⟨tq, tb⟩ := tr
  simp only at hpl htl
  have CPush := Lib.hid (fun w (h : Row w v ls) => (by have := S.push v ls a w h ha (by omega); rw [hpr] at this; exact this : Calls Try.prog 11 #[v, val a] w fun e w' => (∃ u, e = .returned (.tuple #[u, .int .i64 (pc : Int)]) ∧ Row w' u pq) ∧ Below w.heap.size w w'))
  have RPush := Lib.hid (fun u w (h : Row w u ls) => (by have := refPush_rows u ls a w h ha (by omega); rw [hpr] at this; exact this : Calls Try.prog 12 #[u, val a] w fun e w' => (∃ u, e = .returned (.tuple #[u, .int .i64 (pc : Int)]) ∧ Row w' u pq) ∧ Below w.heap.size w w'))
  have CTake := Lib.hid (fun w (h : Row w v ls) => (by have := S.take v ls i w h hi (by omega); rw [htr] at this; exact this : Calls Try.prog 13 #[v, .int .u64 (i : Int)] w fun e w' => (∃ u, e = .returned (.tuple #[u, .bool tb]) ∧ Row w' u tq) ∧ Below w.heap.size w w'))
  have RTake := Lib.hid (fun u w (h : Row w u ls) => (by have := refTake_rows u ls i w h (by omega); rw [htr] at this; exact this : Calls Try.prog 14 #[u, .int .u64 (i : Int)] w fun e w' => (∃ u, e = .returned (.tuple #[u, .bool tb]) ∧ Row w' u tq) ∧ Below w.heap.size w w'))
  obtain ⟨pl, hpl'⟩ : ∃ r, placeL ls i = r := ⟨_, rfl⟩
  obtain ⟨rb, hrb⟩ : ∃ r, rightB ls = r := ⟨_, rfl⟩
  obtain ⟨ab, hab⟩ : ∃ r, ahead a b = r := ⟨_, rfl⟩
  have CPlace := Lib.hid (fun w (h : Row w v ls) => (by rw [← hpl']; exact S.place v ls i w h hi : Calls Try.prog 16 #[v, .int .u64 (i : Int)] w fun e w' => e = .returned (.int .i64 pl) ∧ Below w.heap.size w w'))
  have RPlace := Lib.hid (fun u w (h : Row w u ls) => (by rw [← hpl']; exact refPlace_rows u ls i w h : Calls Try.prog 17 #[u, .int .u64 (i : Int)] w fun e w' => e = .returned (.int .i64 pl) ∧ Below w.heap.size w w'))
  have CRight := Lib.hid (fun w (h : Row w v ls) => (by rw [← hrb]; exact S.right v ls w h : Calls Try.prog 18 #[v] w fun e w' => e = .returned (.bool rb) ∧ Below w.heap.size w w'))
  have RRight := Lib.hid (fun u w (h : Row w u ls) => (by rw [← hrb]; exact refRight_rows u ls w h : Calls Try.prog 19 #[u] w fun e w' => e = .returned (.bool rb) ∧ Below w.heap.size w w'))
  have CAhead := Lib.hid (fun w => (by rw [← hab]; exact S.ahead a b w ha hb : Calls Try.prog 20 #[val a, val b] w fun e w' => e = .returned (.bool ab) ∧ Below w.heap.size w w'))
  have RAhead := Lib.hid (fun w => (by rw [← hab]; exact refAhead_any a b w : Calls Try.prog 21 #[val a, val b] w fun e w' => e = .returned (.bool ab) ∧ Below w.heap.size w w'))
  have SameP := Lib.hid (fun x y w (h : Row w x pq) (g : Row w y pq) => (by have := sameQ_rows x y pq pq w h g hpl; simpa using this : Calls Try.prog 15 #[x, y] w fun e w' => e = .returned (.bool true) ∧ Below w.heap.size w w'))
  have SameT := Lib.hid (fun x y w (h : Row w x tq) (g : Row w y tq) => (by have := sameQ_rows x y tq tq w h g (by omega); simpa using this : Calls Try.prog 15 #[x, y] w fun e w' => e = .returned (.bool true) ∧ Below w.heap.size w w'))
  have HL := Lib.hid hl
  clear hv ha hb hi S hW hpr htr hpl' hrb hab hpl htl hl HS
  obtain ⟨a1, a2⟩ := a
  obtain ⟨b1, b2⟩ := b
  unfold val at CPush RPush CAhead RAhead
  unfold val
  simp only at HBa HBb HW CPush RPush CAhead RAhead
  go_enter Try.func3, Try.ntmps3
  go_upto_region 1 with fail
  rw [← HW.out]
  clear HW
  go_wp2_with fail
  (with_reducible refine HX.out.mono ?_)
  rintro _ w1 ⟨rfl, k1⟩
  have HQ := Lib.hid (refQ_rows v ls w1 (HV.out.below k1) (by have := HL.out; omega))
  clear HX
  go_wp2_with fail
  (with_reducible refine HQ.out.mono ?_)
  rintro _ w2 ⟨⟨u, rfl, hu⟩, k2⟩
  have hW2 := k1.trans (k2.mono k1.size)
  obtain ⟨c0, c1⟩ := HBa.out _ hW2
  have HU := Lib.hid hu
  have H2 := Lib.hid hW2
  clear hu HQ k1 k2 hW2
  go_wp2_with fail
  (with_reducible refine (CPush.out _ (HV.out.below H2.out)).mono ?_)
  rintro _ w3 ⟨⟨p1, rfl, hp1⟩, k3⟩
  have H3 := Lib.hid (H2.out.trans (k3.mono H2.out.size))
  obtain ⟨c0, c1⟩ := HBa.out _ H3.out
  have HP1 := Lib.hid hp1
  have HU3 := Lib.hid (HU.out.below k3)
  clear hp1 k3 HU CPush
  go_wp2_with fail
  (with_reducible refine (RPush.out _ _ HU3.out).mono ?_)
  rintro _ w4 ⟨⟨p2, rfl, hp2⟩, k4⟩
  have H4 := Lib.hid (H3.out.trans (k4.mono H3.out.size))
  have HP2 := Lib.hid hp2
  have HP1 := Lib.hid (HP1.out.below k4)
  have HU4 := Lib.hid (HU3.out.below k4)
  clear hp2 k4 HU3 RPush
  go_wp2_with fail
  (with_reducible refine (CTake.out _ (HV.out.below H4.out)).mono ?_)
  rintro _ w5 ⟨⟨t1, rfl, ht1⟩, k5⟩
  have H5 := Lib.hid (H4.out.trans (k5.mono H4.out.size))
  have HT1 := Lib.hid ht1
  have HP1 := Lib.hid (HP1.out.below k5)
  have HP2 := Lib.hid (HP2.out.below k5)
  have HU5 := Lib.hid (HU4.out.below k5)
  clear ht1 k5 HU4 CTake
  go_wp2_with fail
  (with_reducible refine (RTake.out _ _ HU5.out).mono ?_)
  rintro _ w6 ⟨⟨t2, rfl, ht2⟩, k6⟩
  have hbf := H5.out.trans (k6.mono H5.out.size)
  have HT2 := Lib.hid ht2
  have HT1 := Lib.hid (HT1.out.below k6)
  have HP1 := Lib.hid (HP1.out.below k6)
  have HP2 := Lib.hid (HP2.out.below k6)
  have HU6 := Lib.hid (HU5.out.below k6)
  clear ht2 k6 HU5 RTake c0 c1
  have l0 : ∀ q : Quiet.Behind w6, q.world.cell? ⟨w.heap.size, 0, none⟩ = some (.int .u64 (a1 : Int)) := fun q => (HBa.out q.world (hbf.trans (q.below.mono hbf.size))).1
  have l1 : ∀ q : Quiet.Behind w6, q.world.cell? ⟨w.heap.size, 1, none⟩ = some (.int .i64 a2) := fun q => (HBa.out q.world (hbf.trans (q.below.mono hbf.size))).2
  have l2 : ∀ q : Quiet.Behind w6, q.world.cell? ⟨w.heap.size + 1, 0, none⟩ = some (.int .u64 (b1 : Int)) := fun q => (HBb.out q.world (hbf.trans (q.below.mono hbf.size))).1
  have l3 : ∀ q : Quiet.Behind w6, q.world.cell? ⟨w.heap.size + 1, 1, none⟩ = some (.int .i64 b2) := fun q => (HBb.out q.world (hbf.trans (q.below.mono hbf.size))).2
  have HV6 := Lib.hid (HV.out.below hbf)
  have hbF := hwW.trans (hbf.mono hwW.size)
  clear HBa HBb H2 H3 H4 H5 HV hbf
  go_wp2_with fail
  refine Quiet.region (by kernel_rfl) (by kernel_rfl) ?_
  (try simp only [List.append])
  repeat (go_big_quiet_step (first
    | (go_at_call 15; (with_reducible first | exact Quiet.calls (SameP.out _ _ _ (HP1.out.below (Quiet.Behind.below _)) (HP2.out.below (Quiet.Behind.below _))) | exact Quiet.calls (SameT.out _ _ _ (HT1.out.below (Quiet.Behind.below _)) (HT2.out.below (Quiet.Behind.below _)))))
    | (go_at_call 16; (with_reducible exact Quiet.calls (CPlace.out _ (HV6.out.below (Quiet.Behind.below _)))))
    | (go_at_call 17; (with_reducible exact Quiet.calls (RPlace.out _ _ (HU6.out.below (Quiet.Behind.below _)))))
    | (go_at_call 18; (with_reducible exact Quiet.calls (CRight.out _ (HV6.out.below (Quiet.Behind.below _)))))
    | (go_at_call 19; (with_reducible exact Quiet.calls (RRight.out _ _ (HU6.out.below (Quiet.Behind.below _)))))
    | (go_at_call 20; (with_reducible exact Quiet.calls (CAhead.out _)))
    | (go_at_call 21; (with_reducible exact Quiet.calls (RAhead.out _)))))
  refine wpQuiet_nil ?_
  rintro _ ⟨pz, rfl⟩
  have hq := hbF.trans (pz.below.mono hbF.size)
  generalize pz.world = ws at hq ⊢
  go_wp2
  go_ret
  exact ⟨rfl, hq⟩
end Go.Proofs.Ytimaehaaidjokaa.Queue
