/- What wire.Get defers: if nothing was taken, or what was taken is not the only form of its number, the three answers become 0, 0, false; else they stay. -/
import Derived.Test.YthopegokjbibmaaDoorPut
import Derived.Defers
import Derived.Recover
import Derived.Deep.RegionHeld3
import Derived.BigQuiet
import Derived.Deep.QuietTactic
namespace Go.Proofs.YthopegokjbibmaaDoor.Wire
open Go.RowKit

/-- The five variables of Get, in blocks H to H + 4. -/
def Vars (H : Nat) (s : ByteArray) (p u n : Int) (ok : Bool) (w : World) : Prop :=
  w.cell? ⟨H, 0, none⟩ = some (.string s) ∧ w.cell? ⟨H + 1, 0, none⟩ = some (.int .i64 p) ∧ w.cell? ⟨H + 2, 0, none⟩ = some (.int .u64 u) ∧ w.cell? ⟨H + 3, 0, none⟩ = some (.int .i64 n) ∧ w.cell? ⟨H + 4, 0, none⟩ = some (.bool ok) ∧
  w.frozen? ⟨H + 2, 0, none⟩ = false ∧ w.frozen? ⟨H + 3, 0, none⟩ = false ∧ w.frozen? ⟨H + 4, 0, none⟩ = false

/-- The three answers' variables, written. -/
def put3 (H : Nat) (u n : Int) (ok : Bool) (w : World) : World :=
  ((w.setCell ⟨H + 2, 0, none⟩ (.int .u64 u)).setCell ⟨H + 3, 0, none⟩ (.int .i64 n)).setCell ⟨H + 4, 0, none⟩ (.bool ok)
theorem Vars.put3 {H : Nat} {s : ByteArray} {p u n : Int} {ok : Bool} {w : World} (h : Vars H s p u n ok w) (u' n' : Int) (ok' : Bool) : Vars H s p u' n' ok' (put3 H u' n' ok' w) := by
  obtain ⟨c0, c1, c2, c3, c4, f2, f3, f4⟩ := h
  unfold Wire.put3
  have far : ∀ (x y : Nat) (v : Value) (z : World), x ≠ y → (z.setCell ⟨x, 0, none⟩ v).cell? ⟨y, 0, none⟩ = z.cell? ⟨y, 0, none⟩ := fun x y v z hxy => World.cell?_setCell_far z _ _ v hxy
  refine ⟨?_, ?_, ?_, ?_, ?_, ?_, ?_, ?_⟩
  · rw [far _ _ _ _ (by omega), far _ _ _ _ (by omega), far _ _ _ _ (by omega)]; exact c0
  · rw [far _ _ _ _ (by omega), far _ _ _ _ (by omega), far _ _ _ _ (by omega)]; exact c1
  · rw [far _ _ _ _ (by omega), far _ _ _ _ (by omega)]; exact World.cell?_setCell_same _ _ _ c2
  · rw [far _ _ _ _ (by omega)]; exact World.cell?_setCell_same _ _ _ ((far _ _ _ _ (by omega)).trans c3)
  · exact World.cell?_setCell_same _ _ _ ((far _ _ _ _ (by omega)).trans ((far _ _ _ _ (by omega)).trans c4))
  · simpa using f2
  · simpa using f3
  · simpa using f4
theorem below_put3 {H : Nat} {a w : World} (h : Below H a w) (u n : Int) (ok : Bool) : Below H a (put3 H u n ok w) :=
  ((h.setCell (by simp) _).setCell (by simp) _).setCell (by simp) _
theorem Vars.drewN {H : Nat} {s : ByteArray} {p u n : Int} {ok : Bool} {w : World} (h : Vars H s p u n ok w) (k : Nat) : Vars H s p u n ok (w.drewN k) := h
theorem Vars.lt {H : Nat} {s : ByteArray} {p u n : Int} {ok : Bool} {w : World} (h : Vars H s p u n ok w) : H + 4 < w.heap.size := World.block_lt_of_cell? w ⟨H + 4, 0, none⟩ h.2.2.2.2.1
theorem Vars.later {H : Nat} {s : ByteArray} {p u n : Int} {ok : Bool} {w w' : World} (h : Vars H s p u n ok w) (hb : Below w.heap.size w w') : Vars H s p u n ok w' := by
  have hl := h.lt
  obtain ⟨c0, c1, c2, c3, c4, f2, f3, f4⟩ := h
  exact ⟨cell_later hb c0, cell_later hb c1, cell_later hb c2, cell_later hb c3, cell_later hb c4,
    (hb.frozen (p := ⟨H + 2, 0, none⟩) (by simp; omega)).trans f2, (hb.frozen (p := ⟨H + 3, 0, none⟩) (by simp; omega)).trans f3, (hb.frozen (p := ⟨H + 4, 0, none⟩) (by simp; omega)).trans f4⟩

set_option maxRecDepth 100000 in
set_option maxHeartbeats 1000000 in
theorem undo_none (H : Nat) (s : ByteArray) (p u n : Int) (w : World) (hv : Vars H s p u n false w) :
    CallsD Tryd.prog 62 #[.pointer (some ⟨H + 4, 0, none⟩), .pointer (some ⟨H + 2, 0, none⟩), .pointer (some ⟨H, 0, none⟩), .pointer (some ⟨H + 1, 0, none⟩), .pointer (some ⟨H + 3, 0, none⟩)] .returning w fun e u' w' =>
      u' = .returning ∧ (e = .returned (.tuple #[]) ∧ Vars H s p 0 0 false w' ∧ Below H w w') := by
  obtain ⟨c0, c1, c2, c3, c4, f2, f3, f4⟩ := hv
  go_enter_d Tryd.func62, Tryd.ntmps62
  go_wp2_with fail
  go_quiet (fail)
  go_wp2
  go_end0
  exact ⟨rfl, Vars.put3 (Vars.drewN ⟨c0, c1, c2, c3, c4, f2, f3, f4⟩ _) 0 0 false, below_put3 (below_drewN (Below.refl _ _) _) 0 0 false⟩

theorem vars_S {H : Nat} {s : ByteArray} {p u n : Int} {ok : Bool} {w0 w w' : World} (h : Vars H s p u n ok w) (h0 : Below H w0 w) (hb : Below w.heap.size w w') : Vars H s p u n ok w' ∧ Below H w0 w' :=
  ⟨h.later hb, h0.trans (hb.mono (by have := h.lt; omega))⟩

set_option maxRecDepth 100000 in
set_option maxHeartbeats 1000000 in
theorem undo_same (H : Nat) (s : ByteArray) (p n U : Nat) (hU : U < 18446744073709551616) (hpn : p ≤ n) (hn : n ≤ s.size) (hsame : (str (putL U)).toList = (s.extract p n).toList) (w : World) (hv : Vars H s p U n true w) :
    CallsD Tryd.prog 62 #[.pointer (some ⟨H + 4, 0, none⟩), .pointer (some ⟨H + 2, 0, none⟩), .pointer (some ⟨H, 0, none⟩), .pointer (some ⟨H + 1, 0, none⟩), .pointer (some ⟨H + 3, 0, none⟩)] .returning w fun e u' w' =>
      u' = .returning ∧ (e = .returned (.tuple #[]) ∧ Vars H s p U n true w' ∧ Below H w w') := by
  have hp0 : (0 : Int) ≤ (p : Int) := by omega
  have hpn' : (p : Int) ≤ (n : Int) := by omega
  have hn' : (n : Int) ≤ (s.size : Int) := by omega
  obtain ⟨c0, c1, c2, c3, c4, f2, f3, f4⟩ := hv
  go_enter_d Tryd.func62, Tryd.ntmps62
  go_wp2_with fail
  go_region_held3 (fun w' => w'.cell? ⟨H, 0, none⟩ = some (.string s) ∧ w'.cell? ⟨H + 1, 0, none⟩ = some (.int .i64 p) ∧ w'.cell? ⟨H + 2, 0, none⟩ = some (.int .u64 U) ∧ w'.cell? ⟨H + 3, 0, none⟩ = some (.int .i64 n) ∧ w'.cell? ⟨H + 4, 0, none⟩ = some (.bool true))
    (first | go_keep | exact ⟨cell_later ‹Below _ _ _› (by simp [*]), cell_later ‹Below _ _ _› (by simp [*]), cell_later ‹Below _ _ _› (by simp [*]), cell_later ‹Below _ _ _› (by simp [*]), cell_later ‹Below _ _ _› (by simp [*])⟩)
    (first | (go_at_call 43; refine (put_any U hU _).mono ?_; rintro e w1 ⟨rfl, hb⟩))
  have hv1 := vars_S (w0 := w) (w := w.drew) (w' := w1) (H := H) (s := s) (p := p) (u := U) (n := n) (ok := true) ⟨c0, c1, c2, c3, c4, f2, f3, f4⟩ (Below.refl _ _).drew hb
  go_wp2
  go_end0
  exact ⟨rfl, hv1.1, hv1.2⟩

set_option maxRecDepth 100000 in
set_option maxHeartbeats 1000000 in
theorem undo_other (H : Nat) (s : ByteArray) (p n U : Nat) (hU : U < 18446744073709551616) (hpn : p ≤ n) (hn : n ≤ s.size) (hdiff : ((str (putL U)).toList == (s.extract p n).toList) = false) (w : World) (hv : Vars H s p U n true w) :
    CallsD Tryd.prog 62 #[.pointer (some ⟨H + 4, 0, none⟩), .pointer (some ⟨H + 2, 0, none⟩), .pointer (some ⟨H, 0, none⟩), .pointer (some ⟨H + 1, 0, none⟩), .pointer (some ⟨H + 3, 0, none⟩)] .returning w fun e u' w' =>
      u' = .returning ∧ (e = .returned (.tuple #[]) ∧ Vars H s p 0 0 false w' ∧ Below H w w') := by
  have hp0 : (0 : Int) ≤ (p : Int) := by omega
  have hpn' : (p : Int) ≤ (n : Int) := by omega
  have hn' : (n : Int) ≤ (s.size : Int) := by omega
  obtain ⟨c0, c1, c2, c3, c4, f2, f3, f4⟩ := hv
  go_enter_d Tryd.func62, Tryd.ntmps62
  go_wp2_with fail
  go_region_held3 (fun w' => w'.cell? ⟨H, 0, none⟩ = some (.string s) ∧ w'.cell? ⟨H + 1, 0, none⟩ = some (.int .i64 p) ∧ w'.cell? ⟨H + 2, 0, none⟩ = some (.int .u64 U) ∧ w'.cell? ⟨H + 3, 0, none⟩ = some (.int .i64 n) ∧ w'.cell? ⟨H + 4, 0, none⟩ = some (.bool true))
    (first | go_keep | exact ⟨cell_later ‹Below _ _ _› (by simp [*]), cell_later ‹Below _ _ _› (by simp [*]), cell_later ‹Below _ _ _› (by simp [*]), cell_later ‹Below _ _ _› (by simp [*]), cell_later ‹Below _ _ _› (by simp [*])⟩)
    (first | (go_at_call 43; refine (put_any U hU _).mono ?_; rintro e w1 ⟨rfl, hb⟩))
  have hv1 := vars_S (w0 := w) (w := w.drew) (w' := w1) (H := H) (s := s) (p := p) (u := U) (n := n) (ok := true) ⟨c0, c1, c2, c3, c4, f2, f3, f4⟩ (Below.refl _ _).drew hb
  obtain ⟨⟨d0, d1, d2, d3, d4, g2, g3, g4⟩, hb1⟩ := hv1
  go_wp2
  go_end0
  exact ⟨rfl, Vars.put3 (u := U) (n := n) (ok := true) ⟨d0, d1, d2, d3, d4, g2, g3, g4⟩ 0 0 false, below_put3 hb1 0 0 false⟩
end Go.Proofs.YthopegokjbibmaaDoor.Wire
