/- What the document's own Same and Put answer of any jobs (chapter 11); of memory that was there nothing turns. -/
import Derived.Test.YtbilkeadhflibaaGreatDoorYSpecB
import Derived.Test.YtbilkeadhflibaaGreatDoorSRefE
import Derived.Test.YtbilkeadhflibaaGreatDoorSRefP
import Derived.Deep.QuietTactic
import Derived.BigQuiet
namespace Go.Proofs.YtbilkeadhflibaaGreatDoor.Job
open Go.RowKit Go.Proofs.YtbilkeadhflibaaGreatDoor.Wire Go.Proofs.YtbilkeadhflibaaGreatDoor.Vec Go.Proofs.YtbilkeadhflibaaGreatDoor.Sel

set_option maxRecDepth 100000 in
theorem equal_vecR (d : Nat) (a0 a1 a2 a3 b0 b1 b2 b3 : Int) (w : World) :
    (Op.equalIn (d + 2) 30 (.agg #[.int .u64 a0, .int .u64 a1, .int .u64 a2, .int .u64 a3]) (.agg #[.int .u64 b0, .int .u64 b1, .int .u64 b2, .int .u64 b3])).run Tryz.prog w = .ok (Vec.same a0 a1 a2 a3 b0 b1 b2 b3) w := by
  have hu : Tryz.prog.underlying 30 = some (.array 4 22) := by kernel_rfl
  obtain ⟨i, hi⟩ : ∃ i, Tryz.prog.info? 22 = some i := Option.isSome_iff_exists.1 (by kernel_rfl)
  have hc : Tryz.prog.cellsOf 22 = 1 := by kernel_rfl
  have p0 : ∀ x0 x1 x2 x3 : Int, (part 22 #[.int .u64 x0, .int .u64 x1, .int .u64 x2, .int .u64 x3] 0).run Tryz.prog w = .ok (.int .u64 x0) w := fun _ _ _ _ => by kernel_rfl
  have p1 : ∀ x0 x1 x2 x3 : Int, (part 22 #[.int .u64 x0, .int .u64 x1, .int .u64 x2, .int .u64 x3] 1).run Tryz.prog w = .ok (.int .u64 x1) w := fun _ _ _ _ => by kernel_rfl
  have p2 : ∀ x0 x1 x2 x3 : Int, (part 22 #[.int .u64 x0, .int .u64 x1, .int .u64 x2, .int .u64 x3] 2).run Tryz.prog w = .ok (.int .u64 x2) w := fun _ _ _ _ => by kernel_rfl
  have p3 : ∀ x0 x1 x2 x3 : Int, (part 22 #[.int .u64 x0, .int .u64 x1, .int .u64 x2, .int .u64 x3] 3).run Tryz.prog w = .ok (.int .u64 x3) w := fun _ _ _ _ => by kernel_rfl
  have he : ∀ a b : Int, (Op.equalIn (d + 1) 22 (.int .u64 a) (.int .u64 b)).run Tryz.prog w = .ok (a == b) w := fun a b => run_equalIn_int w d 22 .u64 .u64 a b Tryz.underlying22
  rw [run_equalIn_array w (d + 1) _ _ hu hi, hc]
  have hr : List.range 4 = [0, 1, 2, 3] := rfl
  rw [hr]
  unfold Vec.same
  simp only [Op.eqItems, Sem.run_bind, Nat.mul_one, p0, he, Result.andThen_ok]
  obtain ⟨r0, e0⟩ : ∃ r, (a0 == b0) = r := ⟨_, rfl⟩
  obtain ⟨r1, e1⟩ : ∃ r, (a1 == b1) = r := ⟨_, rfl⟩
  obtain ⟨r2, e2⟩ : ∃ r, (a2 == b2) = r := ⟨_, rfl⟩
  obtain ⟨r3, e3⟩ : ∃ r, (a3 == b3) = r := ⟨_, rfl⟩
  rw [e0, e1, e2, e3]
  cases r0 <;> simp only [Bool.not_false, Bool.not_true, if_true, if_false, Bool.false_eq_true, Sem.run_pure, Sem.run_bind, p1, he, e1, Result.andThen_ok, Bool.false_and, Bool.true_and]
  cases r1 <;> simp only [Bool.not_false, Bool.not_true, if_true, if_false, Bool.false_eq_true, Sem.run_pure, Sem.run_bind, p2, he, e2, Result.andThen_ok, Bool.false_and, Bool.true_and]
  cases r2 <;> simp only [Bool.not_false, Bool.not_true, if_true, if_false, Bool.false_eq_true, Sem.run_pure, Sem.run_bind, p3, he, e3, Result.andThen_ok, Bool.false_and, Bool.true_and]
  cases r3 <;> simp only [Bool.not_false, Bool.not_true, if_true, if_false, Bool.false_eq_true, Sem.run_pure]
theorem same_refl (a0 a1 a2 a3 : Int) : Vec.same a0 a1 a2 a3 a0 a1 a2 a3 = true := by simp [same]
theorem eql_vecR (a0 a1 a2 a3 b0 b1 b2 b3 : Int) (w : World) : (binOp .eql 30 (.agg #[.int .u64 a0, .int .u64 a1, .int .u64 a2, .int .u64 a3]) (.agg #[.int .u64 b0, .int .u64 b1, .int .u64 b2, .int .u64 b3])).run Tryz.prog w = .ok (.bool (Vec.same a0 a1 a2 a3 b0 b1 b2 b3)) w := by
  simp only [binOp]
  simp [Op.equal, Op.maxDepth, equal_vecR 9998 a0 a1 a2 a3 b0 b1 b2 b3 w]
set_option maxHeartbeats 4000000 in
set_option maxRecDepth 100000 in
theorem refSame9 (p q : ByteArray) (a0 a1 a2 a3 n m k b0 b1 b2 b3 n' m' k' : Int) (u v : Value) (pe de n1 n2 n3 se : Bool) (w : World) (hpe : (p.toList == q.toList) = pe) (EV : ∀ w, (binOp .eql 30 (.agg #[.int .u64 a0, .int .u64 a1, .int .u64 a2, .int .u64 a3]) (.agg #[.int .u64 b0, .int .u64 b1, .int .u64 b2, .int .u64 b3])).run Tryz.prog w = .ok (.bool de) w)
    (h1 : (n == n') = n1) (h2 : (m == m') = n2) (h3 : (k == k') = n3)
    (HS : Hid (∀ W, Below w.heap.size w W → Calls Tryz.prog 42 #[u, v] W fun e w' => e = .returned (.bool se) ∧ Below W.heap.size W w')) :
    Calls Tryz.prog 18 #[val9 p a0 a1 a2 a3 n m k u, val9 q b0 b1 b2 b3 n' m' k' v] w fun e w' => e = .returned (.bool (pe && (de && (n1 && (n2 && (n3 && se)))))) ∧ Below w.heap.size w w' := by
  unfold val9
  go_enter Tryz.func18, Tryz.ntmps18
  go_upto_region 1 with fail
  obtain ⟨W, hW⟩ : ∃ W, W = (w.alloc (box9R p a0 a1 a2 a3 n m k u)).alloc (box9R q b0 b1 b2 b3 n' m' k' v) := ⟨_, rfl⟩
  have hA : W.heap[w.heap.size]? = some (box9R p a0 a1 a2 a3 n m k u) := by
    rw [hW, heap_alloc_old _ _ (by simp)]
    exact heap_alloc_new _ _
  have hB : W.heap[w.heap.size + 1]? = some (box9R q b0 b1 b2 b3 n' m' k' v) := by rw [hW]; exact heap_alloc2_new _ _ _
  have hb : Below w.heap.size w W := by rw [hW]; exact ((Below.refl _ _).alloc (Nat.le_refl _) _).alloc (by simp) _
  unfold box9R at hW
  rw [← hW]
  clear hW
  obtain ⟨⟨c0, c1, c2, c3, c4, c5, c6, c7, c8⟩, _⟩ := cells9R hA
  obtain ⟨⟨d0, d1, d2, d3, d4, d5, d6, d7, d8⟩, _⟩ := cells9R hB
  have Hb := Lib.hid hb
  clear hA hB
  cases pe
  · go_wp2
    go_ret
    exact ⟨rfl, Hb.out⟩
  · cases de
    · go_wp2
      go_ret
      exact ⟨rfl, Hb.out⟩
    · cases n1
      · go_wp2
        go_ret
        exact ⟨rfl, Hb.out⟩
      · cases n2
        · go_wp2
          go_ret
          exact ⟨rfl, Hb.out⟩
        · cases n3
          · go_wp2
            go_ret
            exact ⟨rfl, Hb.out⟩
          · go_wp2_with fail
            with_reducible refine (HS.out _ Hb.out).mono ?_
            rintro e w2 ⟨rfl, k2⟩
            go_wp2
            go_ret
            exact ⟨rfl, grows Hb.out k2⟩
theorem refSameJ_any (x y : Jb) (u v : Value) (w : World) (hu : TRow w u (terms x)) (hv : TRow w v (terms y)) (hl : Sel.Fair (terms x)) :
    Calls Tryz.prog 18 #[valJ x u, valJ y v] w fun e w' => e = .returned (.bool (decide (x = y))) ∧ Below w.heap.size w w' := by
  have h := refSame9 (path x) (path y) (am (dem x) 0) (am (dem x) 1) (am (dem x) 2) (am (dem x) 3) (cou x) (pri x) (tik x) (am (dem y) 0) (am (dem y) 1) (am (dem y) 2) (am (dem y) 3) (cou y) (pri y) (tik y) u v _ _ _ _ _ (decide (terms x = terms y)) w rfl (eql_vecR _ _ _ _ _ _ _ _) rfl rfl rfl (Lib.hid fun W h => refSame_any u v (terms x) (terms y) W (hu.below h) (hv.below h) hl)
  have e : ((path x).toList == (path y).toList && (Vec.same (am (dem x) 0) (am (dem x) 1) (am (dem x) 2) (am (dem x) 3) (am (dem y) 0) (am (dem y) 1) (am (dem y) 2) (am (dem y) 3) && (cou x == cou y && (pri x == pri y && (tik x == tik y && decide (terms x = terms y)))))) = decide (x = y) := by
    rw [← eqJ_iff]
    unfold eqJ same3
    simp only [Bool.and_assoc]
  rw [e] at h
  exact h
end Go.Proofs.YtbilkeadhflibaaGreatDoor.Job
