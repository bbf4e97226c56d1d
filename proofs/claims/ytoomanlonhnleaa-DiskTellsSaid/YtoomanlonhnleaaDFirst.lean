/- What disk.first, has and refusal answer; a file by value, and two of them held against one another. -/
import Derived.Test.YtoomanlonhnleaaDDisk
import Derived.Test.YtoomanlonhnleaaProg
import Derived.Test.YtoomanlonhnleaaBoxes
import Derived.WalkKit
import Derived.WalkSpells
import Derived.WalkLawsBesides
import Derived.Lib.Hide
import Derived.ChangeKeysEq
import Derived.Laws.StructEq
namespace Go.Proofs.Ytoomanlonhnleaa.Disk
open Go.RowKit

set_option maxHeartbeats 1000000 in
theorem first_any (s : ByteArray) (hs : s.size ≤ 4611686018427387904) (n : Int) (w : World) :
    Calls Try.prog 38 #[.string s, .int .i64 n] w fun e w' => e = .returned (.string (clip n s)) ∧ w' = w := by
  have e : ∀ r, clip n s = r → (Calls Try.prog 38 #[.string s, .int .i64 n] w fun e w' => e = .returned (.string r) ∧ w' = w) →
      Calls Try.prog 38 #[.string s, .int .i64 n] w fun e w' => e = .returned (.string (clip n s)) ∧ w' = w := fun r h k => by rw [h]; exact k
  by_cases h0 : n ≤ 0
  · refine e ByteArray.empty (clip_none h0 s) ?_
    clear e
    go_enter Try.func38, Try.ntmps38
    go_wp2
    all_goals first | (exfalso; omega) | (go_ret; exact ⟨rfl, rfl⟩)
  by_cases hz : s.size = 0
  · obtain rfl : s = ByteArray.empty := same_list (by rw [List.eq_nil_of_length_eq_zero ((len_list s).trans hz)]; rfl)
    refine e ByteArray.empty (clip_whole (by show ((0 : Nat) : Int) ≤ n; omega)) ?_
    clear e
    go_enter Try.func38, Try.ntmps38
    go_wp2
    all_goals first | (exfalso; omega) | (go_ret; exact ⟨rfl, rfl⟩)
  by_cases h1 : (s.size : Int) < n
  · refine e s (clip_whole (by omega)) ?_
    clear e
    go_enter Try.func38, Try.ntmps38
    go_wp2
    all_goals first | (exfalso; omega) | (go_ret; exact ⟨rfl, rfl⟩)
  · refine e (s.extract 0 n.toNat) (clip_part (by omega)) ?_
    clear e
    go_enter Try.func38, Try.ntmps38
    go_wp2
    all_goals first | (exfalso; omega) | (go_ret; exact ⟨rfl, rfl⟩)

theorem cells8 {w : World} {b : Nat} {v0 v1 v2 v3 v4 v5 v6 v7 : Value} {t : TypeId} (h : w.heap[b]? = some (.cells #[v0, v1, v2, v3, v4, v5, v6, v7] t)) :
    w.cell? ⟨b, 0, none⟩ = some v0 ∧ w.cell? ⟨b, 1, none⟩ = some v1 ∧ w.cell? ⟨b, 2, none⟩ = some v2 ∧ w.cell? ⟨b, 3, none⟩ = some v3 ∧ w.cell? ⟨b, 4, none⟩ = some v4 ∧ w.cell? ⟨b, 5, none⟩ = some v5 ∧ w.cell? ⟨b, 6, none⟩ = some v6 ∧ w.cell? ⟨b, 7, none⟩ = some v7 :=
  ⟨Boxes.cell_at h rfl, Boxes.cell_at h rfl, Boxes.cell_at h rfl, Boxes.cell_at h rfl, Boxes.cell_at h rfl, Boxes.cell_at h rfl, Boxes.cell_at h rfl, Boxes.cell_at h rfl⟩
theorem cells2 {w : World} {b : Nat} {v0 v1 : Value} {t : TypeId} (h : w.heap[b]? = some (.cells #[v0, v1] t)) : w.cell? ⟨b, 0, none⟩ = some v0 ∧ w.cell? ⟨b, 1, none⟩ = some v1 :=
  ⟨Boxes.cell_at h rfl, Boxes.cell_at h rfl⟩
theorem thaw {w : World} {b : Nat} {cs : Array Value} {t : TypeId} (h : w.heap[b]? = some (.cells cs t)) : ∀ i, w.frozen? ⟨b, i, none⟩ = false := fun _ => Boxes.frozen_at h

/-- Is f a file? -/
def isFile (f : Int) : Bool := decide (f = 0 ∨ f = 1)
theorem has_any (v : Dk) (f : Int) (w : World) : Calls Try.prog 39 #[valD v, .int .i64 f] w fun e w' => e = .returned (.bool (isFile f)) ∧ Below w.heap.size w w' := by
  obtain ⟨sz, ⟨a0, b0⟩, ⟨a1, b1⟩, dn, fu, kp⟩ := v
  unfold valD cellsD
  dsimp only
  by_cases h : f = 0 ∨ f = 1
  · have hb : isFile f = true := decide_eq_true h
    rw [hb]
    have h0 : 0 ≤ f := by omega
    have h1 : f < 2 := by omega
    go_enter Try.func39, Try.ntmps39
    go_wp2
    go_ret
    exact ⟨rfl, Boxes.old _ _⟩
  · have hb : isFile f = false := decide_eq_false h
    rw [hb]
    by_cases h0 : 0 ≤ f
    · have h1 : ¬ f < 2 := by omega
      go_enter Try.func39, Try.ntmps39
      go_wp2
      go_ret
      exact ⟨rfl, Boxes.old _ _⟩
    · go_enter Try.func39, Try.ntmps39
      go_wp2
      go_ret
      exact ⟨rfl, Boxes.old _ _⟩
theorem refusal_any (v : Dk) (f : Int) (w : World) : Calls Try.prog 29 #[valD v, .int .i64 f] w fun e w' => e = .returned (.int .i64 (refused v f)) ∧ Below w.heap.size w w' := by
  have HH := Lib.hid (has_any v f)
  have hr : refused v f = if isFile f = true then (if v.down = true then 12 else 0) else 1 := by
    unfold refused isFile
    by_cases h : f = 0 ∨ f = 1
    · rw [if_neg (fun k => k h), if_pos (decide_eq_true h)]
    · rw [if_pos h, if_neg (by simp [h])]
  obtain ⟨r, hrr⟩ : ∃ r, refused v f = r := ⟨_, rfl⟩
  rw [hrr] at hr ⊢
  clear hrr
  obtain ⟨b, hb⟩ : ∃ b, isFile f = b := ⟨_, rfl⟩
  rw [hb] at HH hr
  clear hb
  obtain ⟨sz, ⟨a0, b0⟩, ⟨a1, b1⟩, dn, fu, kp⟩ := v
  unfold valD cellsD at HH ⊢
  dsimp only at HH hr ⊢
  cases b <;> cases dn
  all_goals
    simp only [Bool.false_eq_true, if_true, if_false] at hr
    subst hr
    go_enter Try.func29, Try.ntmps29
    go_wp2_with fail
    refine (HH.out _).mono ?_
    rintro e w1 ⟨rfl, hw⟩
    have hc := Boxes.keep (Boxes.fresh _ _) hw
    have hb := (Boxes.old _ _).trans (hw.mono (Boxes.old _ _).size)
    obtain ⟨_, _, _, _, _, c5, _, _⟩ := cells8 hc
    go_wp2
    go_ret
    exact ⟨rfl, hb⟩
end Go.Proofs.Ytoomanlonhnleaa.Disk
