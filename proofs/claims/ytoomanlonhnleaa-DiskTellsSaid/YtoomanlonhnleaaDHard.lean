/- What disk.harden, leave and the closures of Write, Sync and Cut make of a file. -/
import Derived.Test.YtoomanlonhnleaaDEq
import Derived.Deep.QuietTactic
import Derived.BigQuiet
import Derived.Deep.RegionHeld3
namespace Go.Proofs.Ytoomanlonhnleaa.Disk
open Go.RowKit

theorem eqF_none (x : Fl) : eqF x ⟨x.hard, ByteArray.empty⟩ = decide (x.soft = ByteArray.empty) := by
  unfold eqF
  rw [beq_self_eq_true, Bool.true_and]
  by_cases h : x.soft = ByteArray.empty
  · rw [h]; simp
  · rw [decide_eq_false h, beq_eq_false_iff_ne]
    intro k
    refine h (same_list ?_)
    rw [← ByteArray.toList_eq, ← ByteArray.toList_eq]
    exact k
theorem lose_none {x : Fl} (h : x.soft = ByteArray.empty) (keep : Int) : x.lose keep = x := by
  obtain ⟨a, b⟩ := x
  dsimp only at h
  subst h
  unfold Fl.lose
  show (⟨a ++ clip keep empty, empty⟩ : Fl) = ⟨a, empty⟩
  have : clip keep empty = empty := same_list (by rw [clip_list]; simp [empty])
  rw [this, app_empty]
set_option maxHeartbeats 1000000 in
theorem harden_any (x : Fl) (hx : x.size ≤ 4611686018427387904) (keep : Int) (w : World) :
    Calls Try.prog 35 #[valF x, .int .i64 keep] w fun e w' => e = .returned (valF (x.lose keep)) ∧ Below w.heap.size w w' := by
  have HF := Lib.hid (first_any x.soft (by unfold Fl.size at hx; omega) keep)
  by_cases hs : x.soft = ByteArray.empty
  · rw [lose_none hs]
    obtain ⟨a, b⟩ := x
    dsimp only at hs
    subst hs
    clear HF
    unfold valF
    go_enter Try.func35, Try.ntmps35
    go_wp2
    refine bodyPost_ret (v := .agg #[.string a, .string ByteArray.empty]) (by simp [results, Try.results35, go_sem]) rfl ⟨rfl, ?_⟩
    repeat (first | exact Below.refl _ _ | assumption | refine Below.alloc ?_ ?_ _ | refine Below.setCell ?_ ?_ _ | refine Below.drew ?_)
    all_goals (simp; try omega)
  · have hl : ¬ x.soft.toList = [] := by
      intro k
      refine hs (same_list ?_)
      rw [← ByteArray.toList_eq, k]
      rfl
    obtain ⟨a, b⟩ := x
    unfold valF Fl.lose
    dsimp only at HF hl ⊢
    obtain ⟨c, hc⟩ : ∃ c, clip keep b = c := ⟨_, rfl⟩
    have hz : ¬ 9223372036854775807 < a.size + c.size := by
      have := clip_size keep b
      unfold Fl.size at hx
      dsimp only at hx
      rw [← hc]
      omega
    rw [hc] at HF ⊢
    clear hc hs hx
    go_enter Try.func35, Try.ntmps35
    go_wp2_with fail
    go_region_with (first | (go_at_call 38; refine (HF.out _).mono ?_; rintro e w5 ⟨rfl, rfl⟩))
    all_goals
      go_wp2
      refine bodyPost_ret (v := .agg #[.string (a ++ c), .string ⟨#[]⟩]) (by simp [results, Try.results35, go_sem]) rfl ⟨rfl, ?_⟩
      repeat (first | exact Below.refl _ _ | assumption | refine Below.alloc ?_ ?_ _ | refine Below.setCell ?_ ?_ _ | refine Below.drew ?_)
      all_goals (simp; try omega)

theorem set2 {w : World} {b : Nat} {x y : Value} {t : TypeId} (h : w.heap[b]? = some (.cells #[x, y] t)) (u v : Value) : ((w.setCell ⟨b, 0, none⟩ u).setCell ⟨b, 1, none⟩ v).heap[b]? = some (.cells #[u, v] t) :=
  heap_setCell_same _ b 1 _ _ v (heap_setCell_same w b 0 _ _ u h)
theorem lose_firm_is (x : Fl) : x.lose (x.soft.size : Int) = x.firm := by
  unfold Fl.lose Fl.firm Fl.all
  rw [clip_whole (Int.le_refl _)]
set_option maxHeartbeats 1000000 in
theorem leave_any (x : Fl) (w : World) : Calls Try.prog 36 #[valF x] w fun e w' => e = .returned (valF x) ∧ Below w.heap.size w w' := by
  obtain ⟨a, b⟩ := x
  unfold valF
  dsimp only
  go_enter Try.func36, Try.ntmps36
  go_wp2
  refine bodyPost_ret (v := .agg #[.string a, .string b]) (by simp [results, Try.results36, go_sem]) rfl ⟨rfl, ?_⟩
  repeat (first | exact Below.refl _ _ | assumption | refine Below.alloc ?_ ?_ _ | refine Below.setCell ?_ ?_ _ | refine Below.drew ?_)
  all_goals (simp; try omega)
set_option maxHeartbeats 1000000 in
theorem sync1_any (x : Fl) (hx : x.size ≤ 4611686018427387904) (w : World) : Calls Try.prog 34 #[valF x] w fun e w' => e = .returned (valF x.firm) ∧ Below w.heap.size w w' := by
  have HH := Lib.hid (harden_any x hx x.soft.size)
  rw [lose_firm_is] at HH
  obtain ⟨y, hy⟩ : ∃ y, x.firm = y := ⟨_, rfl⟩
  rw [hy] at HH ⊢
  clear hy
  obtain ⟨a, b⟩ := x
  obtain ⟨a', b'⟩ := y
  unfold valF at HH ⊢
  dsimp only at HH ⊢
  go_enter Try.func34, Try.ntmps34
  go_wp2_with fail
  refine (HH.out _).mono ?_
  rintro e w1 ⟨rfl, hw⟩
  have hB := ((Boxes.old _ _).trans ((Boxes.old _ _).mono (Boxes.old _ _).size)).trans (hw.mono ((Boxes.old _ _).trans ((Boxes.old _ _).mono (Boxes.old _ _).size)).size)
  have hc := Boxes.keep (Boxes.fresh1 w _ _) hw
  obtain ⟨c0, c1⟩ := cells2 hc
  have hf := thaw hc
  obtain ⟨e0, e1⟩ := cells2 (set2 hc (.string a') (.string b'))
  clear hw
  go_wp2
  refine bodyPost_ret (v := .agg #[.string a', .string b']) (by simp [results, Try.results34, go_sem, e0, e1]) rfl ⟨rfl, ?_⟩
  repeat (first | exact Below.refl _ _ | assumption | refine Below.alloc ?_ ?_ _ | refine Below.setCell ?_ ?_ _ | refine Below.drew ?_)
  all_goals (simp; try omega)
set_option maxHeartbeats 1000000 in
theorem write1_any (x : Fl) (s : ByteArray) (hx : x.size + s.size ≤ 4611686018427387904) (q : Addr) (w : World) (hq : q.block < w.heap.size) (hs : w.cell? q = some (.string s)) :
    Calls Try.prog 30 #[valF x, .pointer (some q)] w fun e w' => e = .returned (valF (x.more s)) ∧ Below w.heap.size w w' := by
  obtain ⟨a, b⟩ := x
  unfold valF Fl.more
  have hz : ¬ 9223372036854775807 < b.size + s.size := by
    unfold Fl.size at hx
    dsimp only at hx
    omega
  dsimp only
  have hq0 : q.block ≠ w.heap.size := by omega
  have hq1 : q.block ≠ w.heap.size + 1 := by omega
  have hcell : ∀ o p : Obj, ((w.alloc o).alloc p).cell? q = some (.string s) := fun o p => by
    rw [((Boxes.old w o).trans ((Boxes.old (w.alloc o) p).mono (Boxes.old w o).size)).cell hq, hs]
  go_enter Try.func30, Try.ntmps30
  go_wp2
  refine bodyPost_ret (v := .agg #[.string a, .string (b ++ s)]) (by simp [results, Try.results30, go_sem]) rfl ⟨rfl, ?_⟩
  repeat (first | exact Below.refl _ _ | assumption | refine Below.alloc ?_ ?_ _ | refine Below.setCell ?_ ?_ _ | refine Below.drew ?_)
  all_goals (simp; try omega)
end Go.Proofs.Ytoomanlonhnleaa.Disk
