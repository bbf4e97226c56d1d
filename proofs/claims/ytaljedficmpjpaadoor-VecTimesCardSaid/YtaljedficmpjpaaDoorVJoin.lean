/- What vec.join, Add, Sub and Times answer, for every amounts: amount by amount what wire's Add, Sub, Mul answer; nothing and false, if one of these says no; of memory that was there nothing turns. -/
import Derived.Test.YtaljedficmpjpaaDoorVTurn
import Derived.Test.YtaljedficmpjpaaDoorNum
import Derived.BigQuiet
import Derived.Deep.QuietTactic
namespace Go.Proofs.YtaljedficmpjpaaDoor.Vec
open Go.RowKit

/-- What a pure function of two numbers answers. -/
def Pure2 (op : FuncId) (x y v : Int) (ok : Bool) : Prop := ∀ w, Calls Tryd.prog op #[.int .u64 x, .int .u64 y] w fun e w' => e = .returned (.tuple #[.int .u64 v, .bool ok]) ∧ w = w'

set_option maxRecDepth 100000 in
set_option maxHeartbeats 1000000 in
theorem join1 (op : FuncId) (hf : ∀ (args : Array Value) (w : World), (callFunc op args).run Tryd.prog w = .ok (.enter op args) w)
    (D B k : Nat) (hk : k < 4) (x y v : Int) (ok : Bool) (wr : World) (hd : wr.cell? ⟨D, 0, none⟩ = some (.func (.func op) #[] #[])) (hb : wr.cell? ⟨B, k, none⟩ = some (.int .u64 y)) (st : Pure2 op x y v ok) :
    Calls Tryd.prog 40 #[.int .i64 k, .int .u64 x, .pointer (some ⟨D, 0, none⟩), .pointer (some ⟨B, 0, none⟩)] wr fun e w' => e = .returned (.tuple #[.int .u64 v, .bool ok]) ∧ ∃ n, w' = wr.drewN n := by
  have HS := Lib.hid st
  clear st
  have hk' : (k : Int) < 4 := by omega
  have hk0 : (0 : Int) ≤ (k : Int) := by omega
  go_enter Tryd.func40, Tryd.ntmps40
  go_wp2_with fail
  go_quiet ((exact Calls.quiet_of_same ((HS.out _).mono fun _ _ h => ⟨h.1, h.2.symm⟩)))
  go_wp2
  go_ret2
  exact ⟨rfl, _, rfl⟩

/-- What join has laid. -/
def Joined (w0 : World) (H : Nat) (op : FuncId) (y : Nat → Int) (w : World) : Prop :=
  Below H w0 w ∧ H + 4 ≤ w.heap.size ∧ w.heap[H + 1]? = some (box (y 0) (y 1) (y 2) (y 3)) ∧ w.heap[H + 2]? = some (.cells #[.func (.func op) #[] #[]] 40) ∧ w.heap[H + 3]? = some (box 0 0 0 0)
theorem Joined.later {w0 : World} {H : Nat} {op : FuncId} {y : Nat → Int} {a b : World} (hab : Below (H + 4) a b) (h : Joined w0 H op y a) : Joined w0 H op y b :=
  ⟨h.1.trans (hab.mono (by omega)), Nat.le_trans h.2.1 hab.size, (hab.block _ (by omega)).trans h.2.2.1, (hab.block _ (by omega)).trans h.2.2.2.1, (hab.block _ (by omega)).trans h.2.2.2.2⟩
theorem Joined.drewN {w0 : World} {H : Nat} {op : FuncId} {y : Nat → Int} {a : World} (h : Joined w0 H op y a) (n : Nat) : Joined w0 H op y (a.drewN n) :=
  ⟨below_drewN h.1 n, h.2⟩
theorem cell4 {w : World} {T : Nat} {y : Nat → Int} (h : w.heap[T]? = some (box (y 0) (y 1) (y 2) (y 3))) (k : Nat) (hk : k < 4) : w.cell? ⟨T, k, none⟩ = some (.int .u64 (y k)) := by
  obtain ⟨c0, c1, c2, c3, _⟩ := cells4 h
  have : k = 0 ∨ k = 1 ∨ k = 2 ∨ k = 3 := by omega
  rcases this with rfl | rfl | rfl | rfl
  · exact c0
  · exact c1
  · exact c2
  · exact c3
theorem goes_same (b : Bool) {p : Prop} (h : p) : Goes b p p := match b with | true => .inl ⟨rfl, h⟩ | false => .inr ⟨rfl, h⟩

theorem join_fair {w0 : World} {H : Nat} (op : FuncId) (hf : ∀ (args : Array Value) (w : World), (callFunc op args).run Tryd.prog w = .ok (.enter op args) w) {x y v : Nat → Int} {ok : Nat → Bool}
    (st : ∀ k, k < 4 → Pure2 op (x k) (y k) (v k) (ok k)) :
    Fair (H + 4) 40 #[.pointer (some ⟨H + 2, 0, none⟩), .pointer (some ⟨H + 1, 0, none⟩)] x v ok (fun _ => Joined w0 H op y) (Joined w0 H op y) := by
  intro k hk wr hs hp
  refine (join1 op hf (H + 2) (H + 1) k hk (x k) (y k) (v k) (ok k) wr (cell_at hp.2.2.2.1 rfl) (cell4 hp.2.2.1 k hk) (st k hk)).mono ?_
  rintro e w' ⟨rfl, n, rfl⟩
  exact ⟨rfl, Keeps.drewN _ _ _, goes_same _ (hp.drewN n)⟩

/-- What is handed back of four answers. -/
def Four (v : Nat → Int) (ok : Nat → Bool) (w0 : World) (e : Ending) (w' : World) : Prop :=
  (((∀ i, i < 4 → ok i = true) ∧ e = .returned (.tuple #[vec (v 0) (v 1) (v 2) (v 3), .bool true])) ∨ ((∃ i, i < 4 ∧ ok i = false) ∧ e = .returned (.tuple #[vec 0 0 0 0, .bool false]))) ∧ Below w0.heap.size w0 w'

set_option maxRecDepth 100000 in
set_option maxHeartbeats 1000000 in
theorem join_any (op : FuncId) (hf : ∀ (args : Array Value) (w : World), (callFunc op args).run Tryd.prog w = .ok (.enter op args) w) (x y v : Nat → Int) (ok : Nat → Bool)
    (st : ∀ k, k < 4 → Pure2 op (x k) (y k) (v k) (ok k)) (w : World) :
    Calls Tryd.prog 19 #[vec (x 0) (x 1) (x 2) (x 3), vec (y 0) (y 1) (y 2) (y 3), .func (.func op) #[] #[]] w (Four v ok w) := by
  have hcl : ∀ (args : Array Value) (w : World), (callFunc 40 args).run Tryd.prog w = .ok (.enter 40 args) w := fun _ _ => by kernel_rfl
  have hat : ∀ W : World, W = (((w.alloc (box (x 0) (x 1) (x 2) (x 3))).alloc (box (y 0) (y 1) (y 2) (y 3))).alloc (.cells #[.func (.func op) #[] #[]] 40)).alloc (box 0 0 0 0) →
      W.heap.size = w.heap.size + 4 ∧ Joined w w.heap.size op y W := by
    rintro W rfl
    refine ⟨by simp, (((((Below.refl _ _).alloc (Nat.le_refl _) _).alloc (by simp) _).alloc (by simp; omega) _).alloc (by simp; omega) _), by simp, ?_, ?_, ?_⟩
    · rw [heap_alloc_old _ _ (by simp), heap_alloc_old _ _ (by simp)]
      exact heap_alloc2_new _ _ _
    · rw [heap_alloc_old _ _ (by simp)]
      exact heap_alloc_new ((w.alloc (box (x 0) (x 1) (x 2) (x 3))).alloc (box (y 0) (y 1) (y 2) (y 3))) _ ▸ (by simp)
    · exact heap_alloc_new (((w.alloc (box (x 0) (x 1) (x 2) (x 3))).alloc (box (y 0) (y 1) (y 2) (y 3))).alloc (.cells #[.func (.func op) #[] #[]] 40)) (box 0 0 0 0) ▸ (by simp)
  have HT : ∀ W, W = (((w.alloc (box (x 0) (x 1) (x 2) (x 3))).alloc (box (y 0) (y 1) (y 2) (y 3))).alloc (.cells #[.func (.func op) #[] #[]] 40)).alloc (box 0 0 0 0) →
      Hid (Calls Tryd.prog 27 #[vec (x 0) (x 1) (x 2) (x 3), .func (.func 40) #[] #[.pointer (some ⟨w.heap.size + 1 + 1, 0, none⟩), .pointer (some ⟨w.heap.size + 1, 0, none⟩)]] W (Turned v ok (fun _ => Joined w w.heap.size op y) (Joined w w.heap.size op y))) := by
    intro W hW
    obtain ⟨hs, hj⟩ := hat W hW
    exact Lib.hid (turn_any hcl W (fun _ a b hab h => h.later (by rw [hs] at hab; exact hab)) (fun a b hab h => h.later (by rw [hs] at hab; exact hab)) (by rw [hs]; exact join_fair op hf st) hj)
  clear hat st hf hcl
  unfold vec
  unfold vec box at HT
  go_enter Tryd.func19, Tryd.ntmps19
  go_wp2_with fail
  refine ((HT _ rfl).out).mono ?_
  clear HT
  rintro e w1 (⟨hall, rfl, hj⟩ | ⟨hsome, rfl, hj⟩)
  · obtain ⟨hb, _, _, _, ht0⟩ := hj
    have ht : w1.heap[w.heap.size + 1 + 1 + 1]? = some (box 0 0 0 0) := ht0
    obtain ⟨c0, c1, c2, c3, f0, f1, f2, f3⟩ := cells4 ht
    obtain ⟨d0, d1, d2, d3, _⟩ := cells4 (set4_box ht (v 0) (v 1) (v 2) (v 3))
    have HL := Lib.hid hall
    have HB := Lib.hid (set4_below (T := w.heap.size + 1 + 1 + 1) (a := v 0) (b := v 1) (c := v 2) (d := v 3) hb (by omega))
    have HD := Lib.hid (And.intro d0 (And.intro d1 (And.intro d2 d3)))
    clear ht ht0 hall d0 d1 d2 d3 hb
    unfold vec
    go_wp2
    obtain ⟨d0, d1, d2, d3⟩ := HD.out
    unfold set4 at d0 d1 d2 d3
    refine bodyPost_ret (v := .tuple #[.agg #[.int .u64 (v 0), .int .u64 (v 1), .int .u64 (v 2), .int .u64 (v 3)], .bool true]) (by simp [results, Tryd.results19, go_sem, d0, d1, d2, d3]) rfl ?_
    exact ⟨.inl ⟨HL.out, rfl⟩, HB.out⟩
  · obtain ⟨hb, _, _, _, ht0⟩ := hj
    have ht : w1.heap[w.heap.size + 1 + 1 + 1]? = some (box 0 0 0 0) := ht0
    obtain ⟨c0, c1, c2, c3, f0, f1, f2, f3⟩ := cells4 ht
    obtain ⟨d0, d1, d2, d3, _⟩ := cells4 (set4_box ht 0 0 0 0)
    have HL := Lib.hid hsome
    have HB := Lib.hid (set4_below (T := w.heap.size + 1 + 1 + 1) (a := 0) (b := 0) (c := 0) (d := 0) hb (by omega))
    have HD := Lib.hid (And.intro d0 (And.intro d1 (And.intro d2 d3)))
    clear ht ht0 hsome d0 d1 d2 d3 hb
    unfold vec
    go_wp2
    obtain ⟨d0, d1, d2, d3⟩ := HD.out
    unfold set4 at d0 d1 d2 d3
    refine bodyPost_ret (v := .tuple #[.agg #[.int .u64 0, .int .u64 0, .int .u64 0, .int .u64 0], .bool false]) (by simp [results, Tryd.results19, go_sem, d0, d1, d2, d3]) rfl ?_
    exact ⟨.inr ⟨HL.out, rfl⟩, HB.out⟩

set_option maxRecDepth 100000 in
set_option maxHeartbeats 1000000 in
theorem add_four (x y v : Nat → Int) (ok : Nat → Bool) (st : ∀ k, k < 4 → Pure2 20 (x k) (y k) (v k) (ok k)) (w : World) :
    Calls Tryd.prog 9 #[vec (x 0) (x 1) (x 2) (x 3), vec (y 0) (y 1) (y 2) (y 3)] w (Four v ok w) := by
  have hcl : ∀ (args : Array Value) (w : World), (callFunc 20 args).run Tryd.prog w = .ok (.enter 20 args) w := fun _ _ => by kernel_rfl
  have HT := fun W => Lib.hid (join_any 20 hcl x y v ok st W)
  have hat : ∀ W : World, W = ((w.alloc (box (x 0) (x 1) (x 2) (x 3))).alloc (box (y 0) (y 1) (y 2) (y 3))).alloc (box 0 0 0 0) → ∀ w1, Below W.heap.size W w1 → Below w.heap.size w w1 ∧ w1.heap[w.heap.size + 1 + 1]? = some (box 0 0 0 0) := by
    rintro W rfl w1 h
    refine ⟨((((Below.refl _ _).alloc (Nat.le_refl _) _).alloc (by simp) _).alloc (by simp; omega) _).trans (h.mono (by simp; omega)), ?_⟩
    rw [h.block _ (by simp)]
    exact heap_alloc_new ((w.alloc (box (x 0) (x 1) (x 2) (x 3))).alloc (box (y 0) (y 1) (y 2) (y 3))) (box 0 0 0 0) ▸ (by simp)
  have HA := Lib.hid hat
  clear hat st hcl
  unfold vec
  unfold vec at HT
  unfold box at HA
  go_enter Tryd.func9, Tryd.ntmps9
  go_wp2_with fail
  refine ((HT _).out).mono ?_
  clear HT
  rintro e w1 ⟨(⟨hall, rfl⟩ | ⟨hall, rfl⟩), hb0⟩
  · obtain ⟨hb, ht0⟩ := HA.out _ rfl w1 hb0
    clear HA hb0
    have ht := ht0
    obtain ⟨c0, c1, c2, c3, f0, f1, f2, f3⟩ := cells4 ht
    obtain ⟨d0, d1, d2, d3, _⟩ := cells4 (set4_box ht (v 0) (v 1) (v 2) (v 3))
    have HL := Lib.hid hall
    have HB := Lib.hid (set4_below (T := w.heap.size + 1 + 1) (a := (v 0)) (b := (v 1)) (c := (v 2)) (d := (v 3)) hb (by omega))
    have HD := Lib.hid (And.intro d0 (And.intro d1 (And.intro d2 d3)))
    clear ht ht0 hall d0 d1 d2 d3 hb
    unfold vec
    go_wp2
    obtain ⟨d0, d1, d2, d3⟩ := HD.out
    unfold set4 at d0 d1 d2 d3
    refine bodyPost_ret (v := .tuple #[.agg #[.int .u64 (v 0), .int .u64 (v 1), .int .u64 (v 2), .int .u64 (v 3)], .bool true]) (by simp [results, Tryd.results9, go_sem, d0, d1, d2, d3]) rfl ?_
    exact ⟨.inl ⟨HL.out, rfl⟩, HB.out⟩
  · obtain ⟨hb, ht0⟩ := HA.out _ rfl w1 hb0
    clear HA hb0
    have ht := ht0
    obtain ⟨c0, c1, c2, c3, f0, f1, f2, f3⟩ := cells4 ht
    obtain ⟨d0, d1, d2, d3, _⟩ := cells4 (set4_box ht 0 0 0 0)
    have HL := Lib.hid hall
    have HB := Lib.hid (set4_below (T := w.heap.size + 1 + 1) (a := 0) (b := 0) (c := 0) (d := 0) hb (by omega))
    have HD := Lib.hid (And.intro d0 (And.intro d1 (And.intro d2 d3)))
    clear ht ht0 hall d0 d1 d2 d3 hb
    unfold vec
    go_wp2
    obtain ⟨d0, d1, d2, d3⟩ := HD.out
    unfold set4 at d0 d1 d2 d3
    refine bodyPost_ret (v := .tuple #[.agg #[.int .u64 0, .int .u64 0, .int .u64 0, .int .u64 0], .bool false]) (by simp [results, Tryd.results9, go_sem, d0, d1, d2, d3]) rfl ?_
    exact ⟨.inr ⟨HL.out, rfl⟩, HB.out⟩

set_option maxRecDepth 100000 in
set_option maxHeartbeats 1000000 in
theorem sub_four (x y v : Nat → Int) (ok : Nat → Bool) (st : ∀ k, k < 4 → Pure2 21 (x k) (y k) (v k) (ok k)) (w : World) :
    Calls Tryd.prog 10 #[vec (x 0) (x 1) (x 2) (x 3), vec (y 0) (y 1) (y 2) (y 3)] w (Four v ok w) := by
  have hcl : ∀ (args : Array Value) (w : World), (callFunc 21 args).run Tryd.prog w = .ok (.enter 21 args) w := fun _ _ => by kernel_rfl
  have HT := fun W => Lib.hid (join_any 21 hcl x y v ok st W)
  have hat : ∀ W : World, W = ((w.alloc (box (x 0) (x 1) (x 2) (x 3))).alloc (box (y 0) (y 1) (y 2) (y 3))).alloc (box 0 0 0 0) → ∀ w1, Below W.heap.size W w1 → Below w.heap.size w w1 ∧ w1.heap[w.heap.size + 1 + 1]? = some (box 0 0 0 0) := by
    rintro W rfl w1 h
    refine ⟨((((Below.refl _ _).alloc (Nat.le_refl _) _).alloc (by simp) _).alloc (by simp; omega) _).trans (h.mono (by simp; omega)), ?_⟩
    rw [h.block _ (by simp)]
    exact heap_alloc_new ((w.alloc (box (x 0) (x 1) (x 2) (x 3))).alloc (box (y 0) (y 1) (y 2) (y 3))) (box 0 0 0 0) ▸ (by simp)
  have HA := Lib.hid hat
  clear hat st hcl
  unfold vec
  unfold vec at HT
  unfold box at HA
  go_enter Tryd.func10, Tryd.ntmps10
  go_wp2_with fail
  refine ((HT _).out).mono ?_
  clear HT
  rintro e w1 ⟨(⟨hall, rfl⟩ | ⟨hall, rfl⟩), hb0⟩
  · obtain ⟨hb, ht0⟩ := HA.out _ rfl w1 hb0
    clear HA hb0
    have ht := ht0
    obtain ⟨c0, c1, c2, c3, f0, f1, f2, f3⟩ := cells4 ht
    obtain ⟨d0, d1, d2, d3, _⟩ := cells4 (set4_box ht (v 0) (v 1) (v 2) (v 3))
    have HL := Lib.hid hall
    have HB := Lib.hid (set4_below (T := w.heap.size + 1 + 1) (a := (v 0)) (b := (v 1)) (c := (v 2)) (d := (v 3)) hb (by omega))
    have HD := Lib.hid (And.intro d0 (And.intro d1 (And.intro d2 d3)))
    clear ht ht0 hall d0 d1 d2 d3 hb
    unfold vec
    go_wp2
    obtain ⟨d0, d1, d2, d3⟩ := HD.out
    unfold set4 at d0 d1 d2 d3
    refine bodyPost_ret (v := .tuple #[.agg #[.int .u64 (v 0), .int .u64 (v 1), .int .u64 (v 2), .int .u64 (v 3)], .bool true]) (by simp [results, Tryd.results10, go_sem, d0, d1, d2, d3]) rfl ?_
    exact ⟨.inl ⟨HL.out, rfl⟩, HB.out⟩
  · obtain ⟨hb, ht0⟩ := HA.out _ rfl w1 hb0
    clear HA hb0
    have ht := ht0
    obtain ⟨c0, c1, c2, c3, f0, f1, f2, f3⟩ := cells4 ht
    obtain ⟨d0, d1, d2, d3, _⟩ := cells4 (set4_box ht 0 0 0 0)
    have HL := Lib.hid hall
    have HB := Lib.hid (set4_below (T := w.heap.size + 1 + 1) (a := 0) (b := 0) (c := 0) (d := 0) hb (by omega))
    have HD := Lib.hid (And.intro d0 (And.intro d1 (And.intro d2 d3)))
    clear ht ht0 hall d0 d1 d2 d3 hb
    unfold vec
    go_wp2
    obtain ⟨d0, d1, d2, d3⟩ := HD.out
    unfold set4 at d0 d1 d2 d3
    refine bodyPost_ret (v := .tuple #[.agg #[.int .u64 0, .int .u64 0, .int .u64 0, .int .u64 0], .bool false]) (by simp [results, Tryd.results10, go_sem, d0, d1, d2, d3]) rfl ?_
    exact ⟨.inr ⟨HL.out, rfl⟩, HB.out⟩
end Go.Proofs.YtaljedficmpjpaaDoor.Vec
