/- The chapter's examples hold, if the program's calls say what they are to say. -/
import Derived.Test.YtimaehaaidjokaaUSays
import Derived.BigQuiet
namespace Go.Proofs.Ytimaehaaidjokaa.Queue
open Go.RowKit

theorem fair_small {i : Nat} {p : Int} (h1 : i ≤ 100) (h2 : -100 ≤ p ∧ p ≤ 100) : Fair (i, p) := by unfold Fair; simp only; omega
theorem ex1 : pushL [] (5, 3) = ([(5, 3)], 0) := by decide
theorem ex2 : pushL [(5, 3)] (4, 3) = ([(4, 3), (5, 3)], 0) := by decide
theorem ex3 : pushL [(4, 3), (5, 3)] (9, 7) = ([(9, 7), (4, 3), (5, 3)], 0) := by decide
theorem ex4 : pushL [(9, 7), (4, 3), (5, 3)] (9, 1) = ([(9, 7), (4, 3), (5, 3)], 8) := by decide
theorem ex5 : pushL [(9, 7), (4, 3), (5, 3)] (1, 10) = ([(9, 7), (4, 3), (5, 3)], 1) := by decide
theorem ex6 : takeL [(9, 7), (4, 3), (5, 3)] 4 = ([(9, 7), (5, 3)], true) := by decide
theorem ex7 : placeL [(9, 7), (4, 3), (5, 3)] 5 = 2 := by decide
theorem ex8 : placeL [(9, 7), (4, 3), (5, 3)] 6 = -1 := by decide
theorem ex9 : rightB [(9, 7), (4, 3), (5, 3)] = true := by decide
theorem ex10 : ahead (9, 7) (4, 3) = true := by decide
theorem ex11 : ahead (5, 3) (4, 3) = false := by decide

set_option maxHeartbeats 4000000 in
set_option maxRecDepth 100000 in
theorem examples_any (S : Says) (w : World) : Calls Try.prog 9 #[] w fun e w' => e = .returned (.bool true) ∧ Below w.heap.size w w' := by
  have P1 := fun w => Lib.hid (S.push _ [] (5, 3) w (Row.nil w) (fair_small (by decide) (by decide)) (by decide))
  have P2 := fun v w h => Lib.hid (S.push v [(5, 3)] (4, 3) w h (fair_small (by decide) (by decide)) (by decide))
  have P3 := fun v w h => Lib.hid (S.push v [(4, 3), (5, 3)] (9, 7) w h (fair_small (by decide) (by decide)) (by decide))
  have P4 := fun v w h => Lib.hid (S.push v [(9, 7), (4, 3), (5, 3)] (9, 1) w h (fair_small (by decide) (by decide)) (by decide))
  have P5 := fun v w h => Lib.hid (S.push v [(9, 7), (4, 3), (5, 3)] (1, 10) w h (fair_small (by decide) (by decide)) (by decide))
  have P6 := fun v w h => Lib.hid (S.take v [(9, 7), (4, 3), (5, 3)] 4 w h (by unfold Word; decide) (by decide))
  have P7 := fun v w h => Lib.hid (S.place v [(9, 7), (4, 3), (5, 3)] 5 w h (by unfold Word; decide))
  have P8 := fun v w h => Lib.hid (S.place v [(9, 7), (4, 3), (5, 3)] 6 w h (by unfold Word; decide))
  have P9 := fun v w h => Lib.hid (S.right v [(9, 7), (4, 3), (5, 3)] w h)
  have P10 := fun w => Lib.hid (S.ahead (9, 7) (4, 3) w (fair_small (by decide) (by decide)) (fair_small (by decide) (by decide)))
  have P11 := fun w => Lib.hid (S.ahead (5, 3) (4, 3) w (fair_small (by decide) (by decide)) (fair_small (by decide) (by decide)))
  rw [ex1] at P1
  rw [ex2] at P2
  rw [ex3] at P3
  rw [ex4] at P4
  rw [ex5] at P5
  rw [ex6] at P6
  rw [ex7] at P7
  rw [ex8] at P8
  rw [ex9] at P9
  rw [ex10] at P10
  rw [ex11] at P11
  clear S
  unfold val at P1 P2 P3 P4 P5 P10 P11
  simp only [Int.cast_ofNat_Int] at P1 P2 P3 P4 P5 P6 P7 P8 P10 P11
  have HP := Lib.hid (And.intro P1 (And.intro P2 (And.intro P3 (And.intro P4 (And.intro P5 P6)))))
  clear P1 P2 P3 P4 P5 P6
  go_enter Try.func9, Try.ntmps9
  go_wp2_with fail
  (with_reducible refine (HP.out.1 _).out.mono ?_)
  rintro _ w1 ⟨⟨v1, rfl, h1⟩, b1⟩
  have H1 := Lib.hid h1
  clear h1
  go_wp2_with fail
  (with_reducible refine (HP.out.2.1 _ _ H1.out).out.mono ?_)
  rintro _ w2 ⟨⟨v2, rfl, h2⟩, b2⟩
  have H2 := Lib.hid h2
  clear h2
  go_wp2_with fail
  (with_reducible refine (HP.out.2.2.1 _ _ H2.out).out.mono ?_)
  rintro _ w3 ⟨⟨v3, rfl, h3⟩, b3⟩
  have H3 := Lib.hid h3
  clear h3
  go_wp2_with fail
  (with_reducible refine (HP.out.2.2.2.1 _ _ H3.out).out.mono ?_)
  rintro _ w4 ⟨⟨v4, rfl, _⟩, b4⟩
  have H4 := Lib.hid (H3.out.below b4)
  go_wp2_with fail
  (with_reducible refine (HP.out.2.2.2.2.1 _ _ H4.out).out.mono ?_)
  rintro _ w5 ⟨⟨v5, rfl, _⟩, b5⟩
  have H5 := Lib.hid (H4.out.below b5)
  go_wp2_with fail
  (with_reducible refine (HP.out.2.2.2.2.2 _ _ H5.out).out.mono ?_)
  rintro _ w6 ⟨⟨v6, rfl, h6⟩, b6⟩
  have hb : Below w.heap.size w w6 := by
    have a2 := b1.trans (b2.mono b1.size)
    have a3 := a2.trans (b3.mono a2.size)
    have a4 := a3.trans (b4.mono a3.size)
    have a5 := a4.trans (b5.mono a4.size)
    exact a5.trans (b6.mono a5.size)
  have H6 := Lib.hid (H5.out.below b6)
  obtain ⟨a, cap, e3, _, _⟩ := H6.out.slice
  subst e3
  obtain ⟨g, o, rfl, hg, hc⟩ := H6.out.cells (k := 0) (by decide)
  obtain ⟨a', cap', e6, _, _⟩ := h6.slice
  subst e6
  obtain ⟨g', o', rfl, hg', hc'⟩ := h6.cells (k := 0) (by decide)
  have q0 := hc 0 _ rfl
  have q1 := hc 1 _ rfl
  have q2 := hc 2 _ rfl
  have t1 := hc' 1 _ rfl
  simp only [Nat.zero_mul, Nat.add_zero, Nat.one_mul] at q0 q1 q2 t1
  have c0 : ∀ q : Quiet.Behind w6, q.world.cell? ⟨g, o, none⟩ = _ := Quiet.cell hg q0.2.1
  have c1 : ∀ q : Quiet.Behind w6, q.world.cell? ⟨g, o + 1, none⟩ = _ := Quiet.cell hg q0.2.2
  have c2 : ∀ q : Quiet.Behind w6, q.world.cell? ⟨g, o + 2, none⟩ = _ := Quiet.cell hg q1.2.1
  have c3 : ∀ q : Quiet.Behind w6, q.world.cell? ⟨g, o + 2 + 1, none⟩ = _ := Quiet.cell hg q1.2.2
  have c4 : ∀ q : Quiet.Behind w6, q.world.cell? ⟨g, o + 2 * 2, none⟩ = _ := Quiet.cell hg q2.2.1
  have c5 : ∀ q : Quiet.Behind w6, q.world.cell? ⟨g, o + 2 * 2 + 1, none⟩ = _ := Quiet.cell hg q2.2.2
  have c6 : ∀ q : Quiet.Behind w6, q.world.cell? ⟨g', o' + 2, none⟩ = _ := Quiet.cell hg' t1.2.1
  clear hc hc' q0 q1 q2 t1 h6 HP H1 H2 H3 H4 H5 b1 b2 b3 b4 b5 b6
  go_wp2_with fail
  have HP7 := Lib.hid (fun w' (h : Below w6.heap.size w6 w') => (P7 _ _ (H6.out.below h)).out)
  have HP8 := Lib.hid (fun w' (h : Below w6.heap.size w6 w') => (P8 _ _ (H6.out.below h)).out)
  have HP9 := Lib.hid (fun w' (h : Below w6.heap.size w6 w') => (P9 _ _ (H6.out.below h)).out)
  refine Quiet.region (by kernel_rfl) (by kernel_rfl) ?_
  simp only [List.append]
  repeat (go_big_quiet_step (first | (go_at_call 16; (with_reducible first | exact Quiet.calls (HP7.out _ (Quiet.Behind.below _)) | exact Quiet.calls (HP8.out _ (Quiet.Behind.below _)))) | (go_at_call 18; (with_reducible exact Quiet.calls (HP9.out _ (Quiet.Behind.below _)))) | (go_at_call 20; (with_reducible first | exact Quiet.calls (P10 _).out | exact Quiet.calls (P11 _).out))))
  refine wpQuiet_nil ?_
  rintro _ ⟨pq, rfl⟩
  have hq := hb.trans (pq.below.mono hb.size)
  generalize pq.world = ws at hq ⊢
  go_wp2
  go_ret
  exact ⟨rfl, hq⟩
end Go.Proofs.Ytimaehaaidjokaa.Queue
