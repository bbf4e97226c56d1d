/- Caveats in memory: a slice of them; what mac.mayHave and mac.Allows answer of any; of memory that was there nothing turns. -/
import Derived.Test.YthopegokjbibmaaDoorMSign
import Derived.Lib.Walk
namespace Go.Proofs.YthopegokjbibmaaDoor.Mac
open Go.RowKit Go.Proofs.YthopegokjbibmaaDoor.Sha

def enc (x : Cav) : List Value := [.int .i64 x.1, .int .u64 (x.2 : Int)]
/-- The cells from a place on hold these caveats. -/
def Cells (w : World) (g o : Nat) (ls : List Cav) : Prop :=
  ∀ j x, ls[j]? = some x → Fair x ∧ w.cell? ⟨g, o + j * 2, none⟩ = some (.int .i64 x.1) ∧ w.cell? ⟨g, o + j * 2 + 1, none⟩ = some (.int .u64 (x.2 : Int))
/-- A slice of these caveats. -/
def Row (w : World) (v : Value) (ls : List Cav) : Prop :=
  (ls = [] ∧ ∃ a cap, v = .slice a 0 cap ∧ cap ≤ maxLen) ∨ (ls ≠ [] ∧ ∃ g o cap, v = .slice (some ⟨g, o, none⟩) ls.length cap ∧ g < w.heap.size ∧ ls.length ≤ cap ∧ cap ≤ maxLen ∧ Cells w g o ls)
theorem Cells.below {w w' : World} {g o : Nat} {ls : List Cav} (h : Cells w g o ls) (hg : g < w.heap.size) (hb : Below w.heap.size w w') : Cells w' g o ls := fun j x hj => by
  rw [hb.cell (p := ⟨g, o + j * 2, none⟩) hg, hb.cell (p := ⟨g, o + j * 2 + 1, none⟩) hg]
  exact h j x hj
theorem Row.below {w w' : World} {v : Value} {ls : List Cav} (h : Row w v ls) (hb : Below w.heap.size w w') : Row w' v ls := by
  rcases h with h | ⟨h0, g, o, cap, h1, h2, h3, h4, h5⟩
  · exact .inl h
  · exact .inr ⟨h0, g, o, cap, h1, by have := hb.size; omega, h3, h4, h5.below h2 hb⟩
theorem Row.slice {w : World} {v : Value} {ls : List Cav} (h : Row w v ls) : ∃ a cap, v = .slice a ls.length cap ∧ ls.length ≤ cap ∧ cap ≤ maxLen := by
  rcases h with ⟨rfl, a, cap, rfl, hm⟩ | ⟨_, g, o, cap, rfl, _, hc, hm, _⟩
  · exact ⟨_, _, rfl, Nat.zero_le _, hm⟩
  · exact ⟨_, _, rfl, hc, hm⟩
theorem Row.cells {w : World} {a : Option Addr} {cap k n : Nat} {ls : List Cav} (h : Row w (.slice a n cap) ls) (hk : k < ls.length) : ∃ g o, a = some ⟨g, o, none⟩ ∧ g < w.heap.size ∧ Cells w g o ls := by
  rcases h with ⟨rfl, _⟩ | ⟨_, g, o, cap', hsl, hg, _, _, hcell⟩
  · simp at hk
  · injection hsl with h1 _ _
    exact ⟨g, o, h1, hg, hcell⟩
theorem Row.nil (w : World) : Row w (.slice none 0 0) [] := .inl ⟨rfl, _, _, rfl, Nat.zero_le _⟩
theorem Row.fair {w : World} {v : Value} {ls : List Cav} (h : Row w v ls) : ∀ c ∈ ls, Fair c := fun c hc => by
  rcases h with ⟨rfl, _⟩ | ⟨_, g, o, cap, _, _, _, _, h5⟩
  · simp at hc
  · obtain ⟨i, hi⟩ := List.mem_iff_getElem?.1 hc
    exact (h5 i c hi).1

theorem Row.len {w : World} {v : Value} {ls : List Cav} (h : Row w v ls) : ls.length ≤ 9223372036854775807 := by
  obtain ⟨_, cap, _, h1, h2⟩ := h.slice
  unfold maxLen at h2
  omega
theorem any_drop {ls : List Cav} {k : Nat} {x : Cav} (hx : ls[k]? = some x) (f : Cav → Bool) : (ls.drop k).any f = (f x || (ls.drop (k + 1)).any f) := by
  obtain ⟨hlt, rfl⟩ := List.getElem?_eq_some_iff.1 hx
  rw [List.drop_eq_getElem_cons hlt, List.any_cons]
theorem all_drop {ls : List Cav} {k : Nat} {x : Cav} (hx : ls[k]? = some x) (f : Cav → Bool) : (ls.drop k).all f = (f x && (ls.drop (k + 1)).all f) := by
  obtain ⟨hlt, rfl⟩ := List.getElem?_eq_some_iff.1 hx
  rw [List.drop_eq_getElem_cons hlt, List.all_cons]

set_option maxHeartbeats 1000000 in
set_option maxRecDepth 100000 in
theorem strange_any (c : Cav) (w : World) :
    Calls Tryd.prog 57 #[val c] w fun e w' => e = .returned (.bool (strange c)) ∧ Below w.heap.size w w' := by
  obtain ⟨k, n⟩ := c
  have hb0 : Below w.heap.size w (w.alloc (.cells #[.int .i64 k, .int .u64 (n : Int)] 27)) := (Below.refl _ _).alloc (Nat.le_refl _) _
  by_cases h1 : k = 1
  · have HE : Hid (strange (k, n) = false) := Lib.hid (by simp [strange, h1])
    subst h1
    unfold val
    go_enter Tryd.func57, Tryd.ntmps57
    go_wp2
    go_ret
    exact ⟨by rw [HE.out]; rfl, hb0⟩
  · have e1 : (k != 1) = true := by simpa using h1
    by_cases h2 : k = 2
    · have HE : Hid (strange (k, n) = false) := Lib.hid (by simp [strange, h2])
      subst h2
      unfold val
      go_enter Tryd.func57, Tryd.ntmps57
      go_wp2
      go_ret
      exact ⟨by rw [HE.out]; rfl, hb0⟩
    · have e2 : (k != 2) = true := by simpa using h2
      have HE : Hid (strange (k, n) = true) := Lib.hid (by simp [strange, h1, h2])
      have H1 := Lib.hid h1
      clear h1 h2
      unfold val
      go_enter Tryd.func57, Tryd.ntmps57
      go_wp2
      go_ret
      exact ⟨by rw [HE.out]; rfl, hb0⟩
theorem enters_strange (args : Array Value) (w : World) : (callFunc 57 args).run Tryd.prog w = .ok (.enter 57 args) w := by kernel_rfl
set_option maxHeartbeats 1000000 in
set_option maxRecDepth 100000 in
theorem index_strange (v : Value) (ls : List Cav) (w : World) (hv : Row w v ls) (hl : ls.length ≤ 9223372036854775807) :
    Calls Tryd.prog 68 #[v, .func (.func 57) #[] #[]] w fun e w' => (∃ r : Int, e = .returned (.int .i64 r) ∧ -1 ≤ r ∧ r ≤ 9223372036854775807 ∧ (ls.any strange = decide (0 ≤ r))) ∧ Below w.heap.size w w' := by
  obtain ⟨a, cap, rfl, hcap, hm⟩ := hv.slice
  have HV := Lib.hid hv
  clear hv
  go_enter Tryd.func68, Tryd.ntmps68
  go_wp2
  go_loopw [8] (fun i wr => ∃ k : Nat, k ≤ ls.length ∧ i = .int .i64 k ∧ (ls.drop k).any strange = ls.any strange ∧ Below w.heap.size w wr) (fun i _ => ls.length - (intOf i).toNat)
  case atStart => exact ⟨0, Nat.zero_le _, rfl, rfl, Below.refl _ _⟩
  case round =>
    obtain ⟨k, hk, rfl, hf, hb⟩ := hrel
    have HF := Lib.hid hf
    clear hf
    by_cases hlt : k < ls.length
    · obtain ⟨g, o, rfl, hg, hcell⟩ := HV.out.cells hlt
      obtain ⟨x, hx⟩ : ∃ x, ls[k]? = some x := ⟨_, List.getElem?_eq_getElem hlt⟩
      obtain ⟨_, hc1, hc2⟩ := hcell.below hg hb k x hx
      have hst := Lib.hid (strange_any x)
      have HX := Lib.hid (any_drop hx strange)
      clear hx hcell
      have hltz : (k : Int) < (ls.length : Int) := by omega
      have he : Hid (strange x = true) ∨ Hid (strange x = false) := by cases h : strange x; exact .inr (Lib.hid rfl); exact .inl (Lib.hid rfl)
      obtain ⟨x1, x2⟩ := x
      unfold val at hst
      rcases he with he | he
      · rw [he.out] at hst
        go_wp2_with fail
        with_reducible refine (hst.out _).mono ?_
        rintro e w1 ⟨rfl, b1⟩
        go_wp2
        go_ret
        refine ⟨⟨(k : Int), rfl, by omega, by omega, ?_⟩, hb.trans (b1.mono hb.size)⟩
        rw [← HF.out, HX.out, he.out]
        simp
      · rw [he.out] at hst
        go_wp2_with fail
        with_reducible refine (hst.out _).mono ?_
        rintro e w1 ⟨rfl, b1⟩
        go_wp2
        go_roundw
        case rel => exact ⟨k + 1, by omega, by go_num, by rw [← HF.out, HX.out, he.out]; rfl, hb.trans (b1.mono hb.size)⟩
        case measure => simp [intOf]; omega
    · have hltz : ¬ (k : Int) < (ls.length : Int) := by omega
      go_wp2
      go_ret
      refine ⟨⟨-1, rfl, by omega, by omega, ?_⟩, hb⟩
      rw [← HF.out, List.drop_eq_nil_of_le (by omega)]
      rfl
set_option maxHeartbeats 1000000 in
set_option maxRecDepth 100000 in
theorem contains_strange (v : Value) (ls : List Cav) (w : World) (hv : Row w v ls) (hl : ls.length ≤ 9223372036854775807) :
    Calls Tryd.prog 56 #[v, .func (.func 57) #[] #[]] w fun e w' => e = .returned (.bool (ls.any strange)) ∧ Below w.heap.size w w' := by
  have HI := Lib.hid (index_strange v ls w hv hl)
  clear hv
  go_enter Tryd.func56, Tryd.ntmps56
  go_wp2_with fail
  with_reducible refine HI.out.mono ?_
  rintro e w1 ⟨⟨r, rfl, _, _, hr⟩, b1⟩
  have HRr := Lib.hid hr
  clear hr
  go_wp2
  go_ret
  exact ⟨by rw [HRr.out]; rfl, b1⟩
set_option maxHeartbeats 1000000 in
set_option maxRecDepth 100000 in
theorem may_any (v : Value) (ls : List Cav) (w : World) (hv : Row w v ls) (hl : ls.length ≤ 9223372036854775807) :
    Calls Tryd.prog 39 #[v] w fun e w' => e = .returned (.bool (mayL ls)) ∧ Below w.heap.size w w' := by
  have HC := Lib.hid (contains_strange v ls w hv hl)
  obtain ⟨a, cap, rfl, hcap, hm⟩ := hv.slice
  clear hv
  obtain ⟨q, hq⟩ : ∃ q, ls.any strange = q := ⟨_, rfl⟩
  rw [hq] at HC
  by_cases h8 : ls.length ≤ 8
  · have h8z : (ls.length : Int) ≤ 8 := by omega
    have HE : Hid (mayL ls = !q) := Lib.hid (by unfold mayL; rw [hq, decide_eq_true h8]; rfl)
    clear hq
    go_enter Tryd.func39, Tryd.ntmps39
    go_wp2_with fail
    with_reducible refine HC.out.mono ?_
    rintro e w1 ⟨rfl, b1⟩
    go_wp2
    go_ret
    exact ⟨by rw [HE.out]; rfl, b1⟩
  · have h8z : ¬ (ls.length : Int) ≤ 8 := by omega
    have HE : Hid (mayL ls = false) := Lib.hid (by unfold mayL; rw [decide_eq_false h8]; rfl)
    clear hq
    go_enter Tryd.func39, Tryd.ntmps39
    go_wp2
    go_ret
    exact ⟨by rw [HE.out]; rfl, Below.refl _ _⟩
end Go.Proofs.YthopegokjbibmaaDoor.Mac
