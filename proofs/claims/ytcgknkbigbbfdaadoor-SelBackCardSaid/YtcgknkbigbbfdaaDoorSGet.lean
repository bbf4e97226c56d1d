/- What sel.Get answers of every text and place; of memory that was there nothing turns. -/
import Derived.Test.YtcgknkbigbbfdaaDoorSTermR
namespace Go.Proofs.YtcgknkbigbbfdaaDoor.Sel
open Go.RowKit Go.Proofs.YtcgknkbigbbfdaaDoor.Texts Go.Proofs.YtcgknkbigbbfdaaDoor.Word Go.Proofs.YtcgknkbigbbfdaaDoor.Forms Go.Proofs.YtcgknkbigbbfdaaDoor.Split Go.Proofs.YtcgknkbigbbfdaaDoor.Boxes

/-- What is told of a selector that was got, or of none. -/
def TellsG (r : Option (List Tm × Int)) (w : World) (e : Ending) (w' : World) : Prop := (match r with
  | none => e = .returned (.tuple #[.slice none 0 0, .int .i64 0, .bool false])
  | some x => ∃ v, e = .returned (.tuple #[v, .int .i64 x.2, .bool true]) ∧ TRow w' v x.1) ∧ Below w.heap.size w w'
def allR : Option (List Tm × Int) → Option (List Tm × Int)
  | none => none
  | some x => if x.1.all rightT = true then some x else none
theorem oneR_at {s : ByteArray} {p : Int} {x : Tm × Int} (h : oneT s p = some x) : oneR s p = if rightT x.1 = true then some x else none := by unfold oneR; rw [h]
theorem oneR_no {s : ByteArray} {p : Int} (h : oneT s p = none) : oneR s p = none := by unfold oneR; rw [h]
theorem readN_all (s : ByteArray) : ∀ (k : Nat) (p : Int), readN (oneR s) k p = allR (readN (oneT s) k p)
  | 0, p => rfl
  | k + 1, p => by
    rw [readN, readN]
    cases h : oneT s p with
    | none => rw [oneR_no h]; rfl
    | some x =>
      rw [oneR_at h]
      have ih := readN_all s k x.2
      by_cases hx : rightT x.1 = true
      · rw [if_pos hx]
        simp only
        rw [ih]
        cases readN (oneT s) k x.2 with
        | none => rfl
        | some y =>
          by_cases hy : y.1.all rightT = true
          · simp [allR, hx, hy]
          · simp [allR, hx, hy]
      · rw [if_neg hx]
        simp only
        cases readN (oneT s) k x.2 with
        | none => rfl
        | some y => simp [allR, hx]
theorem keep_all {s : ByteArray} {k : Nat} (hk : k ≤ 4) (p : Int) : keepS (readN (oneT s) k p) = readN (oneR s) k p := by
  rw [readN_all]
  cases h : readN (oneT s) k p with
  | none => rfl
  | some x =>
    have := readN_len h
    have e : rightS x.1 = x.1.all rightT := by unfold rightS; rw [decide_eq_true (show x.1.length ≤ 4 by omega), Bool.true_and]
    show (if rightS x.1 = true then some x else none) = if x.1.all rightT = true then some x else none
    rw [e]

/-- The three answers' variables behind a panic. -/
theorem fallen3 {H : Nat} {w0 w : World} {x y z : Value} (hb : Below H w0 w) (h0 : w.heap[H]? = some (.cells #[x] 22)) (h1 : w.heap[H + 1]? = some (.cells #[y] 3)) (h2 : w.heap[H + 2]? = some (.cells #[z] 4)) (v : Value) (i : Int) (b : Bool) :
    (((w.setCell ⟨H, 0, none⟩ v).setCell ⟨H + 1, 0, none⟩ (.int .i64 i)).setCell ⟨H + 2, 0, none⟩ (.bool b)).cell? ⟨H, 0, none⟩ = some v ∧ (((w.setCell ⟨H, 0, none⟩ v).setCell ⟨H + 1, 0, none⟩ (.int .i64 i)).setCell ⟨H + 2, 0, none⟩ (.bool b)).cell? ⟨H + 1, 0, none⟩ = some (.int .i64 i) ∧
    (((w.setCell ⟨H, 0, none⟩ v).setCell ⟨H + 1, 0, none⟩ (.int .i64 i)).setCell ⟨H + 2, 0, none⟩ (.bool b)).cell? ⟨H + 2, 0, none⟩ = some (.bool b) ∧
    Below H w0 (((w.setCell ⟨H, 0, none⟩ v).setCell ⟨H + 1, 0, none⟩ (.int .i64 i)).setCell ⟨H + 2, 0, none⟩ (.bool b)) := by
  have a0 := heap_setCell_same w H 0 _ _ v h0
  have a1 := (heap_setCell_other w ⟨H, 0, none⟩ (H + 1) v (by simp)).trans h1
  have a2 := (heap_setCell_other w ⟨H, 0, none⟩ (H + 2) v (by simp)).trans h2
  have b0 := (heap_setCell_other (w.setCell ⟨H, 0, none⟩ v) ⟨H + 1, 0, none⟩ H (.int .i64 i) (by simp)).trans a0
  have b1 := heap_setCell_same _ (H + 1) 0 _ _ (.int .i64 i) a1
  have b2 := (heap_setCell_other (w.setCell ⟨H, 0, none⟩ v) ⟨H + 1, 0, none⟩ (H + 2) (.int .i64 i) (by simp)).trans a2
  have c0 := (heap_setCell_other _ ⟨H + 2, 0, none⟩ H (.bool b) (by simp)).trans b0
  have c1 := (heap_setCell_other _ ⟨H + 2, 0, none⟩ (H + 1) (.bool b) (by simp)).trans b1
  have c2 := heap_setCell_same _ (H + 2) 0 _ _ (.bool b) b2
  exact ⟨cell_at (i := 0) c0 rfl, cell_at (i := 0) c1 rfl, cell_at (i := 0) c2 rfl, ((hb.setCell (Nat.le_refl _) _).setCell (by simp) _).setCell (by simp) _⟩

set_option maxHeartbeats 1000000 in
set_option maxRecDepth 100000 in
theorem get_bare (s : ByteArray) (p : Int) (w : World) (hE : Err w)
    (HN : Hid (∀ R W, Rd R s p W → Err W → Calls Tryd.prog 29 #[.pointer (some ⟨R, 0, none⟩), .int .u64 4] W fun e w' => Falls e ∧ Below W.heap.size W w')) :
    Calls Tryd.prog 11 #[.string s, .int .i64 p] w (TellsG none w) := by
  have hmf : ∀ (fn : Fn) (first cap : Array Value) (w : World), (Instr.makeFunc fn first cap).run Tryd.prog w = .ok (.func fn first cap) w := fun _ _ _ _ => rfl
  have HE : Hid (∀ W, Below w.heap.size w W → Err W) := Lib.hid fun W h => hE.below h
  clear hE
  go_enter_defers Tryd.func11, Tryd.ntmps11
  go_wp2_with fail
  have hb0 := grows (grows (grows (grew w (.cells #[.slice none 0 0] 22)) (grew _ (.cells #[.int .i64 0] 3))) (grew _ (.cells #[.bool false] 4))) (grew _ (.cells #[.string s, .int .i64 p] 61))
  refine (HN.out _ _ (fresh3 w _ _ _ _) (HE.out _ hb0)).mono ?_
  rintro e w1 ⟨⟨T, pe, rfl⟩, hb1⟩
  have h0 := keep (keep (keep (keep (fresh w _) (old _ _)) (old _ _)) (old _ _)) hb1
  have h1 := keep (keep (keep (fresh1 w _ _) (old _ _)) (old _ _)) hb1
  have h2 := keep (keep (fresh2 w _ _ _) (old _ _)) hb1
  have hb := grows hb0 hb1
  go_wp2
  refine leaves_cons (f := 28) (args := #[.pointer (some ⟨w.heap.size, 0, none⟩), .pointer (some ⟨w.heap.size + 1, 0, none⟩), .pointer (some ⟨w.heap.size + 2, 0, none⟩)]) (by simp) (by simp [go_sem]) ?_
  refine (get_catch w.heap.size _ _ _ pe T [] _ h0 h1 h2).mono ?_
  rintro e u' w2 ⟨rfl, rfl, rfl⟩
  obtain ⟨c0, c1, c2, hbz⟩ := fallen3 hb h0 h1 h2 (.slice none 0 0) 0 false
  simp [Leaves, settle, results, Tryd.results11, go_sem, c0, c1, c2]
  exact ⟨rfl, hbz⟩
end Go.Proofs.YtcgknkbigbbfdaaDoor.Sel
