/- What the document's own Text answers of amounts (chapter 3); of memory that was there nothing turns. -/
import Derived.Test.YtbilkeadhflibaaGreatDoorYRefD
namespace Go.Proofs.YtbilkeadhflibaaGreatDoor.Job
open Go.RowKit Go.Proofs.YtbilkeadhflibaaGreatDoor.Wire Go.Proofs.YtbilkeadhflibaaGreatDoor.Vec Go.Proofs.YtbilkeadhflibaaGreatDoor.Sel

theorem text_sum (v : V4) : dec (am v 0) ++ ⟨#[58]⟩ ++ dec (am v 1) ++ ⟨#[58]⟩ ++ dec (am v 2) ++ ⟨#[58]⟩ ++ dec (am v 3) = textV v := by
  refine list_eq_of_toList ?_
  rw [Lib.toList_data, Lib.toList_data, textV_list]
  have hd : ∀ u, (dec u).data.toList = Lib.decDigits u := fun u => rfl
  simp only [app_list, hd, Forms.glueC]
  simp
set_option maxHeartbeats 4000000 in
set_option maxRecDepth 100000 in
theorem refTextV_any (v : V4) (hv : fair4 v) (w : World) :
    Calls Tryz.prog 103 #[vecV v] w fun e w' => e = .returned (.string (textV v)) ∧ Below w.heap.size w w' := by
  have hz : ∀ k, k < 4 → (dec (am v k)).size ≤ 20 := fun k hk => (dec_size (hv k hk)).2
  have HP0 := Lib.hid (fun W => refDigits_any (am v 0) (hv 0 (by omega)) W)
  have HP1 := Lib.hid (fun W => refDigits_any (am v 1) (hv 1 (by omega)) W)
  have HP2 := Lib.hid (fun W => refDigits_any (am v 2) (hv 2 (by omega)) W)
  have HP3 := Lib.hid (fun W => refDigits_any (am v 3) (hv 3 (by omega)) W)
  have hall := text_sum v
  have z0 := hz 0 (by omega)
  have z1 := hz 1 (by omega)
  have z2 := hz 2 (by omega)
  have z3 := hz 3 (by omega)
  have hb := grew w (boxR fun i => (am v i : Int))
  have hX := one_boxR w (fun i => (am v i : Int))
  unfold vecV vec
  generalize dec (am v 0) = s0 at HP0 hall z0
  generalize dec (am v 1) = s1 at HP1 hall z1
  generalize dec (am v 2) = s2 at HP2 hall z2
  generalize dec (am v 3) = s3 at HP3 hall z3
  generalize textV v = S at hall ⊢
  obtain ⟨col, hcol⟩ : ∃ c : ByteArray, c = ⟨#[58]⟩ := ⟨_, rfl⟩
  have hc1 : col.size = 1 := by rw [hcol]; rfl
  rw [← hcol] at hall
  have q1 : (s0 ++ col).size ≤ 30 := by rw [size_app]; omega
  have q2 : (s0 ++ col ++ s1).size ≤ 60 := by rw [size_app]; omega
  have q3 : (s0 ++ col ++ s1 ++ col).size ≤ 70 := by rw [size_app]; omega
  have q4 : (s0 ++ col ++ s1 ++ col ++ s2).size ≤ 100 := by rw [size_app]; omega
  have q5 : (s0 ++ col ++ s1 ++ col ++ s2 ++ col).size ≤ 110 := by rw [size_app]; omega
  have add1 : ∀ w, Sem.run Tryz.prog (Op.stringOp .add s0 ⟨#[58]⟩) w = .ok (.string (s0 ++ col)) w := fun w => by rw [← hcol]; exact run_string_add_sum w _ _ (by omega)
  have add2 : ∀ w, Sem.run Tryz.prog (Op.stringOp .add (s0 ++ col) s1) w = .ok (.string (s0 ++ col ++ s1)) w := fun w => run_string_add_sum w _ _ (by omega)
  have add3 : ∀ w, Sem.run Tryz.prog (Op.stringOp .add (s0 ++ col ++ s1) ⟨#[58]⟩) w = .ok (.string (s0 ++ col ++ s1 ++ col)) w := fun w => by rw [← hcol]; exact run_string_add_sum w _ _ (by omega)
  have add4 : ∀ w, Sem.run Tryz.prog (Op.stringOp .add (s0 ++ col ++ s1 ++ col) s2) w = .ok (.string (s0 ++ col ++ s1 ++ col ++ s2)) w := fun w => run_string_add_sum w _ _ (by omega)
  have add5 : ∀ w, Sem.run Tryz.prog (Op.stringOp .add (s0 ++ col ++ s1 ++ col ++ s2) ⟨#[58]⟩) w = .ok (.string (s0 ++ col ++ s1 ++ col ++ s2 ++ col)) w := fun w => by rw [← hcol]; exact run_string_add_sum w _ _ (by omega)
  have add6 : ∀ w, Sem.run Tryz.prog (Op.stringOp .add (s0 ++ col ++ s1 ++ col ++ s2 ++ col) s3) w = .ok (.string S) w := fun w => by rw [← hall]; exact run_string_add_sum w _ _ (by omega)
  clear hz hall z0 z1 z2 z3 hv q1 q2 q3 q4 q5 hc1 hcol
  unfold boxR at hb hX
  dsimp only at hb hX
  obtain ⟨a0, e0⟩ : ∃ a : Int, a = am v 0 := ⟨_, rfl⟩
  obtain ⟨a1, e1⟩ : ∃ a : Int, a = am v 1 := ⟨_, rfl⟩
  obtain ⟨a2, e2⟩ : ∃ a : Int, a = am v 2 := ⟨_, rfl⟩
  obtain ⟨a3, e3⟩ : ∃ a : Int, a = am v 3 := ⟨_, rfl⟩
  rw [← e0] at HP0
  rw [← e1] at HP1
  rw [← e2] at HP2
  rw [← e3] at HP3
  rw [← e0, ← e1, ← e2, ← e3] at hb hX ⊢
  clear e0 e1 e2 e3
  go_enter Tryz.func103, Tryz.ntmps103
  go_upto_region 1 with fail
  obtain ⟨T, hT⟩ : ∃ T, T = w.heap.size := ⟨_, rfl⟩
  rw [← hT] at hX ⊢
  generalize w.alloc _ = w1 at hb hX ⊢
  have lT := (Array.getElem?_eq_some_iff.1 hX).1
  have C0 := Quiet.cell lT (cell_at (i := 0) hX rfl)
  have C1 := Quiet.cell lT (cell_at (i := 1) hX rfl)
  have C2 := Quiet.cell lT (cell_at (i := 2) hX rfl)
  have C3 := Quiet.cell lT (cell_at (i := 3) hX rfl)
  have HB := Lib.hid hb
  clear hb hX hT lT
  refine Quiet.region (by kernel_rfl) (by kernel_rfl) ?_
  repeat (go_big_quiet_step (first | (go_at_call 84; (first | (with_reducible exact Quiet.calls (HP0.out _)) | (with_reducible exact Quiet.calls (HP1.out _)) | (with_reducible exact Quiet.calls (HP2.out _)) | (with_reducible exact Quiet.calls (HP3.out _))))))
  refine wpQuiet_nil ?_
  rintro _ ⟨pq, rfl⟩
  have hq := pq.below
  generalize pq.world = w2 at hq ⊢
  clear C0 C1 C2 C3
  go_wp2
  go_ret
  exact ⟨rfl, grows HB.out hq⟩
end Go.Proofs.YtbilkeadhflibaaGreatDoor.Job
