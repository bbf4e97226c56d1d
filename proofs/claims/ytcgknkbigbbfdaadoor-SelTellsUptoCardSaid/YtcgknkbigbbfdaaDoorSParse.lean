/- What sel.Parse answers of every text; of memory that was there nothing turns. -/
import Derived.Test.YtcgknkbigbbfdaaDoorSOwn
namespace Go.Proofs.YtcgknkbigbbfdaaDoor.Sel
open Go.RowKit Go.Proofs.YtcgknkbigbbfdaaDoor.Texts Go.Proofs.YtcgknkbigbbfdaaDoor.Word Go.Proofs.YtcgknkbigbbfdaaDoor.Forms Go.Proofs.YtcgknkbigbbfdaaDoor.Split Go.Proofs.YtcgknkbigbbfdaaDoor.Boxes

/-- What is told of a selector, or of none. -/
def TellsS (r : Option (List Tm)) (w : World) (e : Ending) (w' : World) : Prop := (match r with
  | none => e = .returned (.tuple #[.slice none 0 0, .bool false])
  | some ls => ∃ v, e = .returned (.tuple #[v, .bool true]) ∧ TRow w' v ls) ∧ Below w.heap.size w w'

set_option maxHeartbeats 1000000 in
set_option maxRecDepth 100000 in
theorem parse_dash (w : World) : Calls Tryd.prog 13 #[.string ⟨#[45]⟩] w (TellsS (some []) w) := by
  have hmf : ∀ (fn : Fn) (first cap : Array Value) (w : World), (Instr.makeFunc fn first cap).run Tryd.prog w = .ok (.func fn first cap) w := fun _ _ _ _ => rfl
  go_enter_defers Tryd.func13, Tryd.ntmps13
  go_wp2
  refine leaves_cons (f := 33) (args := #[.pointer (some ⟨w.heap.size, 0, none⟩), .pointer (some ⟨w.heap.size + 1, 0, none⟩)]) (by simp) (by simp [go_sem]) ?_
  refine (parse_idle _ _ _).mono ?_
  rintro e u' w1 ⟨rfl, rfl, rfl⟩
  simp [Leaves, settle, results, Tryd.results13, go_sem]
  exact ⟨⟨_, rfl, TRow.nil _⟩, grows (grew w _) (grew _ _)⟩

/-- The two answers' variables behind a panic. -/
theorem fallen {H : Nat} {w0 w : World} {x y : Value} (hb : Below H w0 w) (h0 : w.heap[H]? = some (.cells #[x] 22)) (h1 : w.heap[H + 1]? = some (.cells #[y] 4)) :
    ((w.setCell ⟨H, 0, none⟩ (.slice none 0 0)).setCell ⟨H + 1, 0, none⟩ (.bool false)).cell? ⟨H, 0, none⟩ = some (.slice none 0 0) ∧ ((w.setCell ⟨H, 0, none⟩ (.slice none 0 0)).setCell ⟨H + 1, 0, none⟩ (.bool false)).cell? ⟨H + 1, 0, none⟩ = some (.bool false) ∧
    Below H w0 ((w.setCell ⟨H, 0, none⟩ (.slice none 0 0)).setCell ⟨H + 1, 0, none⟩ (.bool false)) := by
  have a0 := heap_setCell_same w H 0 _ _ (.slice none 0 0) h0
  have a1 := (heap_setCell_other w ⟨H, 0, none⟩ (H + 1) (.slice none 0 0) (by simp)).trans h1
  have b0 := (heap_setCell_other (w.setCell ⟨H, 0, none⟩ (.slice none 0 0)) ⟨H + 1, 0, none⟩ H (.bool false) (by simp)).trans a0
  have b1 := heap_setCell_same _ (H + 1) 0 _ _ (.bool false) a1
  exact ⟨cell_at (i := 0) b0 rfl, cell_at (i := 0) b1 rfl, (hb.setCell (Nat.le_refl _) _).setCell (by simp) _⟩

set_option maxHeartbeats 1000000 in
set_option maxRecDepth 100000 in
theorem parse_many (s : ByteArray) (hs : s.size ≤ 4611686018427387904) (hd : (s.toList == [45]) = false) (h4 : 4 < (cuts 44 s.data.toList).length) (w : World) (hE : Err w) : Calls Tryd.prog 13 #[.string s] w (TellsS none w) := by
  have hmf : ∀ (fn : Fn) (first cap : Array Value) (w : World), (Instr.makeFunc fn first cap).run Tryd.prog w = .ok (.func fn first cap) w := fun _ _ _ _ => rfl
  have HE : Hid (∀ W, Below w.heap.size w W → Err W) := Lib.hid fun W h => hE.below h
  have HS : Hid (∀ W, Err W → Calls Tryd.prog 34 #[.string s, .string ⟨#[44]⟩, .int .i64 4] W fun e w' => Falls e ∧ Below W.heap.size W w') := Lib.hid fun W h => split_no 44 s hs h4 W h
  clear hE h4
  go_enter_defers Tryd.func13, Tryd.ntmps13
  go_wp2_with fail
  refine (HS.out _ (HE.out _ (grows (grew w _) (grew _ _)))).mono ?_
  rintro e w1 ⟨⟨T, p, rfl⟩, hb1⟩
  have h0 := keep (keep (fresh w _) (old _ _)) hb1
  have h1 := keep (fresh1 w _ _) hb1
  have hb := grows (grows (grew w _) (grew _ _)) hb1
  go_wp2
  refine leaves_cons (f := 33) (args := #[.pointer (some ⟨w.heap.size, 0, none⟩), .pointer (some ⟨w.heap.size + 1, 0, none⟩)]) (by simp) (by simp [go_sem]) ?_
  refine (parse_catch w.heap.size _ _ p T [] _ h0 h1).mono ?_
  rintro e u' w2 ⟨rfl, rfl, rfl⟩
  obtain ⟨c0, c1, hbz⟩ := fallen hb h0 h1
  simp [Leaves, settle, results, Tryd.results13, go_sem, c0, c1]
  exact ⟨rfl, hbz⟩
end Go.Proofs.YtcgknkbigbbfdaaDoor.Sel
