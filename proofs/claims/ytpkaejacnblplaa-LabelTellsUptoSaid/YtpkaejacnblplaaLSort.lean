/- What slices.Clone and slices.SortStableFunc do with up to eight pairs: a row of its own of the same pairs; the pairs by insertion. Of memory that was there nothing turns. -/
import Derived.Test.YtpkaejacnblplaaLMath
import Derived.OwnWalk
import Derived.Lib.SliceRun
namespace Go.Proofs.Ytpkaejacnblplaa.Label
open Go.RowKit Go.Proofs.Ytpkaejacnblplaa.Word Go.Sort

theorem enc_len (x : Pr) : (enc x).length = 2 := rfl
theorem enc_one (x : Pr) : ∀ v ∈ enc x, v.oneCell' = true := by
  intro v hv
  simp [enc] at hv
  rcases hv with rfl | rfl <;> rfl
theorem holds_cells {w : World} {g o : Nat} {ls : List Pr} (h : HoldsK enc 2 w g o ls.toArray) : Cells w g o ls := fun j x hj => by
  have hlt : j < ls.toArray.size := by simpa using (List.getElem?_eq_some_iff.1 hj).1
  have hx : ls.toArray[j]! = x := get_bang (d := ls.toArray) (by simpa using hj)
  have h0 := (h.cell hlt (c := 0) (by omega)).1
  have h1 := (h.cell hlt (c := 1) (by omega)).1
  rw [hx] at h0 h1
  exact ⟨h0, h1⟩
/-- A row of one's own, from block B on. -/
def Mine (B : Nat) (w : World) (v : Value) (ls : List Pr) : Prop :=
  (ls = [] ∧ ∃ a cap, v = .slice a 0 cap ∧ cap ≤ maxLen) ∨ (ls ≠ [] ∧ ∃ g cap, v = .slice (some ⟨g, 0, none⟩) ls.length cap ∧ B ≤ g ∧ g < w.heap.size ∧ ls.length ≤ cap ∧ cap ≤ maxLen ∧ HoldsK enc 2 w g 0 ls.toArray)
theorem Mine.row {B : Nat} {w : World} {v : Value} {ls : List Pr} (h : Mine B w v ls) : Row w v ls := by
  rcases h with h | ⟨h0, g, cap, h1, _, h2, h3, h4, h5⟩
  · exact .inl h
  · exact .inr ⟨h0, g, 0, cap, h1, h2, h3, h4, holds_cells h5⟩

theorem flat_get {ls : List Pr} {j : Nat} {u : Value} (h : (flatK enc 2 ls.toArray).toList[j]? = some u) : ∃ x, ls[j / 2]? = some x ∧ u = (enc x)[j % 2]! := by
  rw [Array.getElem?_toList] at h
  have hlt : j < ls.length * 2 := by have := (Array.getElem?_eq_some_iff.1 h).1; rw [size_flatK] at this; simpa using this
  obtain ⟨x, hx⟩ : ∃ x, ls[j / 2]? = some x := ⟨_, List.getElem?_eq_getElem (by omega)⟩
  refine ⟨x, hx, ?_⟩
  have := get_flatK enc 2 ls.toArray j (by simpa using hlt)
  rw [getElem!_def, h] at this
  rw [show u = _ from this, get_bang (d := ls.toArray) (by simpa using hx)]

theorem cells_flat {w : World} {g o : Nat} {ls : List Pr} (h : Cells w g o ls) : ∀ j u, (flatK enc 2 ls.toArray).toList[j]? = some u → w.cell? ⟨g, o + j, none⟩ = some u := fun j u hj => by
  obtain ⟨x, hx, rfl⟩ := flat_get hj
  obtain ⟨h0, h1⟩ := h _ x hx
  have hm : j % 2 = 0 ∨ j % 2 = 1 := by omega
  rcases hm with hm | hm
  · rw [hm, show o + j = o + j / 2 * 2 by omega, h0]; rfl
  · rw [hm, show o + j = o + j / 2 * 2 + 1 by omega, h1]; rfl

theorem mine_of_own {B : Nat} {w : World} {v : Value} {ls : List Pr} (hl : ls ≠ []) (h : w.ownsRow B 48 2 v ls.length (flatK enc 2 ls.toArray).toList) : Mine B w v ls := by
  have h' := h
  have hc := fun g hg => h'.cells (g := g) hg
  rcases h.2 with ⟨rfl, h0⟩ | ⟨g, cap, cur, rfl, hB, hg, hcap, hm, hsz, htake⟩
  · exact absurd (List.eq_nil_of_length_eq_zero h0) hl
  · refine .inr ⟨hl, g, cap, rfl, hB, (Array.getElem?_eq_some_iff.1 hg).1, hcap, hm, fun j hj => ⟨?_, ?_⟩⟩
    · have hj' : (flatK enc 2 ls.toArray).toList[j]? = some (flatK enc 2 ls.toArray)[j]! := by rw [Array.getElem?_toList, getElem!_pos (flatK enc 2 ls.toArray) j hj, Array.getElem?_eq_getElem hj]
      have := hc g rfl j _ hj'
      rwa [Addr.add_lit] at this
    · unfold World.frozen?
      rw [hg]
      simp

theorem infoP : (Try.prog.info? 48).map (fun i => (i.zero, i.size, i.bytes)) = some (some (.agg #[.string ByteArray.empty, .string ByteArray.empty]), 2, 32) := by kernel_rfl
theorem aggP (w : World) : (isAgg 48).run Try.prog w = .ok true w := by kernel_rfl
theorem sizeP (w : World) : (Go.sizeOf 48).run Try.prog w = .ok 2 w := by kernel_rfl

theorem flat_one (ls : List Pr) : ∀ u ∈ (flatK enc 2 ls.toArray).toList, u.oneCell' = true := fun u hu => by
  obtain ⟨j, hj⟩ := List.mem_iff_getElem?.1 hu
  obtain ⟨x, _, rfl⟩ := flat_get hj
  have hm : j % 2 = 0 ∨ j % 2 = 1 := by omega
  rcases hm with hm | hm <;> rw [hm] <;> rfl

set_option maxHeartbeats 1000000 in
set_option maxRecDepth 100000 in
theorem clone_any (v : Value) (ls : List Pr) (w : World) (hv : Row w v ls) (hl : ls.length ≤ 8) :
    Calls Try.prog 57 #[v] w fun e w' => ∃ v', e = .returned v' ∧ Below w.heap.size w w' ∧ Mine w.heap.size w' v' ls := by
  obtain ⟨i0, hi, hz0, hz1, hz2⟩ := info_parts infoP
  rcases hv with ⟨rfl, a, cap, rfl, hm⟩ | ⟨hne, g, o, cap, rfl, hg, hcap, hm, hcell⟩
  · cases a with
    | none =>
      refine (AnyE.slices_Clone_nil Laid.laysSlE041_f57 0 cap w).mono ?_
      rintro e w' ⟨rfl, rfl⟩
      exact ⟨_, rfl, Below.refl _ _, .inl ⟨rfl, _, _, rfl, Nat.zero_le _⟩⟩
    | some a =>
      go_enter Try.func57, Try.ntmps57
      have hnil := fun w => Lib.run_eql_slice_nil (P := Try.prog) w 22 48 (some a) 0 cap 0 0 Try.underlying22
      go_wp2
      go_ret
      exact ⟨_, rfl, (Below.refl _ _).alloc (Nat.le_refl _) _, .inl ⟨rfl, _, _, rfl, Nat.zero_le _⟩⟩
  · refine (AnyE.slices_Clone Laid.laysSlE041_f57 i0 _ 2 32 hi hz0 hz1 hz2 rfl (by omega) sizeP g o ls.length cap (flatK enc 2 ls.toArray).toList w (by rw [Array.length_toList, size_flatK]; simp) (by unfold maxLen; omega) (by omega) (cells_flat hcell) (flat_one ls)).mono ?_
    rintro e w' ⟨v', rfl, hown, _, hb⟩
    exact ⟨v', rfl, hb, mine_of_own hne hown⟩

theorem boxes_grow (w : World) (x y : Pr) : boxes w x y = grow (w.drewN 0) #[.cells #[.string x.1, .string x.2] 48, .cells #[.string y.1, .string y.2] 48] := by
  unfold boxes grow World.alloc
  have e : ∀ (h : Array Obj) (a b : Obj), (h.push a).push b = h ++ #[a, b] := fun h a b => by apply Array.toList_inj.1; simp
  simp only [e]
  rfl
theorem enters_order (args : Array Value) (w : World) : (callFunc 59 args).run Try.prog w = .ok (.enter 59 args) w := by kernel_rfl
theorem cmp_lays (g size : Nat) (w : World) : CmpLays Try.prog 59 #[] enc 2 cf g 0 size w := fun _ _ _ _ x y =>
  (order_any x y _).mono fun _ _ ⟨he, hw⟩ => ⟨he, 0, _, hw.trans (boxes_grow _ _ _)⟩
theorem below_sort (B : Nat) (w : World) (g n : Nat) (d : Array Pr) (os : Array Obj) (h : B ≤ g) (hg : g < w.heap.size) : Below B w (sortWorldK enc 2 w g 0 n d os) := by
  refine ⟨rfl, rfl, rfl, size_sortWorldK_c _ _ _ _ _ _ _ _, fun k hk => ?_⟩
  show ((w.heap.modify g _) ++ os)[k]? = _
  rw [Array.getElem?_append_left (by simp; omega), Array.getElem?_modify, if_neg (by omega)]
theorem sort_lt {w : World} {g n : Nat} {d : Array Pr} {os : Array Obj} (hg : g < w.heap.size) : g < (sortWorldK enc 2 w g 0 n d os).heap.size :=
  Nat.lt_of_lt_of_le hg (size_sortWorldK_c _ _ _ _ _ _ _ _)

/-- What the sort leaves. -/
def Sorts (B : Nat) (v : Value) (ls : List Pr) (w : World) (e : Ending) (w' : World) : Prop :=
  e = .returned (.tuple #[]) ∧ ∃ ls', ls'.length = ls.length ∧ (Rises ls → ls' = ls) ∧ (¬ Dup ls' → Rises ls') ∧ Mine B w' v ls' ∧ Below B w w'

set_option maxHeartbeats 1000000 in
set_option maxRecDepth 100000 in
theorem insertion_none (a : Option Addr) (cap : Nat) (f : Value) (w : World) :
    Calls Try.prog 79 #[.slice a 0 cap, .int .i64 0, .int .i64 0, f] w fun e w' => e = .returned (.tuple #[]) ∧ w' = w := by
  go_enter Try.func79, Try.ntmps79
  go_wp2
  go_loopw [8] (fun i wr => i = .int .i64 1 ∧ wr = w) (fun _ _ => 0)
  case atStart => exact ⟨rfl, rfl⟩
  case round =>
    obtain ⟨rfl, rfl⟩ := hrel
    go_wp2
    go_end0
    exact ⟨rfl, rfl⟩

set_option maxHeartbeats 1000000 in
set_option maxRecDepth 100000 in
theorem stable_any (B : Nat) (v : Value) (ls : List Pr) (n : Nat) (hn : n = ls.length) (w : World) (hv : Mine B w v ls) (hl : ls.length ≤ 8) :
    Calls Try.prog 71 #[v, .int .i64 n, .func (.func 59) #[] #[]] w (Sorts B v ls w) := by
  subst hn
  have HI : Hid (Calls Try.prog 79 #[v, .int .i64 0, .int .i64 ls.length, .func (.func 59) #[] #[]] w (Sorts B v ls w)) := by
    rcases hv with ⟨rfl, a, cap, rfl, hm⟩ | ⟨hne, g, cap, rfl, hB, hg, hcap, hm, hH⟩
    · refine (insertion_none a cap _ w).mono ?_
      rintro e w' ⟨rfl, rfl⟩
      exact ⟨rfl, [], rfl, fun _ => rfl, fun _ j x y hx _ => by simp at hx, .inl ⟨rfl, _, _, rfl, hm⟩, Below.refl _ _⟩
    · have := AnyQ.insertionSortCmpFunc Laid.laysSlF020_f79 2 aggP sizeP enc enc_len enc_one cf 59 #[] g 0 cap 0 ls.toArray.size ls.toArray w enters_order (cmp_lays _ _ _) hH hg (Nat.zero_le _) (Nat.le_refl _) (by simp; omega)
      rw [List.size_toArray] at this
      refine this.mono ?_
      rintro e w' ⟨rfl, n, os, hw⟩
      obtain ⟨ls', h1, h2, h3, h4⟩ := sorted_is ls.toArray
      rw [List.size_toArray] at h1 h2
      rw [h1] at hw
      rw [List.toList_toArray] at h3
      refine ⟨rfl, ls', h2, h3, h4, .inr ⟨?_, g, cap, by rw [h2], hB, ?_, by omega, hm, ?_⟩, ?_⟩
      · intro h; rw [h] at h2; exact hne (List.eq_nil_of_length_eq_zero h2.symm)
      · rw [hw]; exact sort_lt hg
      · rw [hw]; exact holdsK_sortWorldK_c enc 2 w g 0 ls.toArray ls'.toArray _ _ hH hg (by simp [h2])
      · rw [hw]; exact below_sort B w g _ _ _ hB hg
  have c0 : ¬ ((20 : Int) ≤ (ls.length : Int)) := by omega
  have c1 : ¬ ((20 : Int) < (ls.length : Int)) := by omega
  clear hv
  go_enter Try.func71, Try.ntmps71
  go_wp2_with fail
  go_loopw [7, 8] (fun a i wr => a = .int .i64 0 ∧ i = .int .i64 20 ∧ wr = w) (fun _ _ _ => 0)
  case atStart => exact ⟨rfl, rfl, rfl⟩
  case round =>
    obtain ⟨rfl, rfl, rfl⟩ := hrel
    go_wp2_with fail
    refine HI.out.mono ?_
    rintro e w1 ⟨rfl, hp⟩
    have HP := Lib.hid hp
    clear hp
    go_wp2_with fail
    go_loopw [6] (fun i wr => i = .int .i64 20 ∧ wr = w1) (fun _ _ => 0)
    case atStart => exact ⟨rfl, rfl⟩
    case round =>
      obtain ⟨rfl, rfl⟩ := hrel
      go_wp2
      go_end0
      exact ⟨rfl, HP.out⟩

set_option maxHeartbeats 1000000 in
set_option maxRecDepth 100000 in
theorem sort_any (B : Nat) (v : Value) (ls : List Pr) (w : World) (hv : Mine B w v ls) (hl : ls.length ≤ 8) :
    Calls Try.prog 58 #[v, .func (.func 59) #[] #[]] w (Sorts B v ls w) := by
  have HI := Lib.hid (stable_any B v ls ls.length rfl w hv hl)
  have hs : ∃ a cap, v = .slice a ls.length cap := by
    rcases hv with ⟨rfl, a, cap, rfl, _⟩ | ⟨_, g, cap, rfl, _⟩
    · exact ⟨_, _, rfl⟩
    · exact ⟨_, _, rfl⟩
  clear hv
  obtain ⟨a, cap, rfl⟩ := hs
  go_enter Try.func58, Try.ntmps58
  go_wp2_with fail
  refine HI.out.mono ?_
  rintro e w1 ⟨rfl, hp⟩
  have HP := Lib.hid hp
  clear hp
  go_wp2
  go_end0
  exact ⟨rfl, HP.out⟩
end Go.Proofs.Ytpkaejacnblplaa.Label
