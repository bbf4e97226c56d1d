/- What vec.turn makes of whatever function is handed in: the four answers, if it says yes each time; nothing and false, if not. -/
import Derived.Test.YtaljedficmpjpaaDoorVEach
namespace Go.Proofs.YtaljedficmpjpaaDoor.Vec
open Go.RowKit

/-- Blocks from H on that were there are as they were. -/
def Keeps (H : Nat) (w w' : World) : Prop := w.heap.size ≤ w'.heap.size ∧ ∀ k, H ≤ k → k < w.heap.size → w'.heap[k]? = w.heap[k]?
theorem Keeps.refl (H : Nat) (w : World) : Keeps H w w := ⟨Nat.le_refl _, fun _ _ _ => rfl⟩
theorem Keeps.trans {H : Nat} {a b c : World} (h : Keeps H a b) (k : Keeps H b c) : Keeps H a c :=
  ⟨Nat.le_trans h.1 k.1, fun i h1 h2 => (k.2 i h1 (Nat.lt_of_lt_of_le h2 h.1)).trans (h.2 i h1 h2)⟩
theorem Keeps.drewN (H : Nat) (w : World) (n : Nat) : Keeps H w (w.drewN n) := ⟨Nat.le_refl _, fun _ _ _ => rfl⟩
theorem Keeps.of_below {H : Nat} {w w' : World} (h : Below w.heap.size w w') : Keeps H w w' := ⟨h.size, fun k _ hk => h.block k hk⟩
theorem Keeps.set {H : Nat} {w w' : World} (h : Keeps H w w') {a : Addr} (ha : a.block < H) (v : Value) : Keeps H w (w'.setCell a v) :=
  ⟨by simpa using h.1, fun k h1 h2 => (heap_setCell_other _ _ _ _ (by omega)).trans (h.2 k h1 h2)⟩

theorem cell_at {w : World} {b i : Nat} {cs : Array Value} {t : TypeId} {v : Value} (h : w.heap[b]? = some (.cells cs t)) (hi : cs[i]? = some v) : w.cell? ⟨b, i, none⟩ = some v := by
  simp [World.cell?, h, hi]
theorem frozen_at {w : World} {b i : Nat} {cs : Array Value} {t : TypeId} (h : w.heap[b]? = some (.cells cs t)) : w.frozen? ⟨b, i, none⟩ = false := by
  simp [World.frozen?, h]

/-- The cells of four amounts in memory. -/
theorem cells4 {w : World} {T : Nat} {t0 t1 t2 t3 : Int} (h : w.heap[T]? = some (box t0 t1 t2 t3)) :
    w.cell? ⟨T, 0, none⟩ = some (.int .u64 t0) ∧ w.cell? ⟨T, 1, none⟩ = some (.int .u64 t1) ∧ w.cell? ⟨T, 2, none⟩ = some (.int .u64 t2) ∧ w.cell? ⟨T, 3, none⟩ = some (.int .u64 t3) ∧
    w.frozen? ⟨T, 0, none⟩ = false ∧ w.frozen? ⟨T, 1, none⟩ = false ∧ w.frozen? ⟨T, 2, none⟩ = false ∧ w.frozen? ⟨T, 3, none⟩ = false :=
  ⟨cell_at h rfl, cell_at h rfl, cell_at h rfl, cell_at h rfl, frozen_at h, frozen_at h, frozen_at h, frozen_at h⟩

/-- Four amounts stored. -/
def set4 (T : Nat) (a b c d : Int) (w : World) : World :=
  (((w.setCell ⟨T, 0, none⟩ (.int .u64 a)).setCell ⟨T, 1, none⟩ (.int .u64 b)).setCell ⟨T, 2, none⟩ (.int .u64 c)).setCell ⟨T, 3, none⟩ (.int .u64 d)
theorem set4_box {w : World} {T : Nat} {t0 t1 t2 t3 : Int} (h : w.heap[T]? = some (box t0 t1 t2 t3)) (a b c d : Int) : (set4 T a b c d w).heap[T]? = some (box a b c d) := by
  unfold box at h
  unfold set4
  have h1 := heap_setCell_same w T 0 _ _ (.int .u64 a) h
  have h2 := heap_setCell_same _ T 1 _ _ (.int .u64 b) h1
  have h3 := heap_setCell_same _ T 2 _ _ (.int .u64 c) h2
  have h4 := heap_setCell_same _ T 3 _ _ (.int .u64 d) h3
  rw [h4]
  rfl
theorem set4_below {H T : Nat} {a b c d : Int} {w0 w : World} (h : Below H w0 w) (hT : H ≤ T) : Below H w0 (set4 T a b c d w) :=
  (((h.setCell hT _).setCell hT _).setCell hT _).setCell hT _
theorem set4_size (T : Nat) (a b c d : Int) (w : World) : (set4 T a b c d w).heap.size = w.heap.size := by simp [set4]

/-- What was told of the handed-in function: a number and a yes or no, and what became of memory. -/
def Tells (v : Int) (ok : Bool) (R : World → Prop) (e : Ending) (w' : World) : Prop := e = .returned (.tuple #[.int .u64 v, .bool ok]) ∧ R w'

/-- A number stored into one of the four. -/
def put (H k : Nat) (v : Int) (w : World) : World := w.setCell ⟨H, k, none⟩ (.int .u64 v)

set_option maxRecDepth 100000 in
set_option maxHeartbeats 1000000 in
theorem turn1 (g : FuncId) (cap : Array Value) (hf : ∀ (args : Array Value) (w : World), (callFunc g args).run Tryd.prog w = .ok (.enter g args) w)
    (D T : Nat) (k : Nat) (hk : k < 4) (x t0 t1 t2 t3 v : Int) (ok : Bool) (R : World → Prop) (wr : World)
    (hd : wr.heap[D]? = some (.cells #[.func (.func g) #[] cap] 46))
    (st : Calls Tryd.prog g (#[.int .i64 k, .int .u64 x] ++ cap) wr (Tells v ok R))
    (hR : ∀ w', R w' → w'.heap[T]? = some (box t0 t1 t2 t3)) :
    Calls Tryd.prog 43 #[.int .i64 k, .int .u64 x, .pointer (some ⟨D, 0, none⟩), .pointer (some ⟨T, 0, none⟩)] wr fun e w' => e = .returned (.bool ok) ∧ ∃ w1, R w1 ∧ w' = put T k v w1 := by
  have hc := cell_at (i := 0) hd rfl
  have HS := Lib.hid st
  have HR := Lib.hid hR
  clear st hR hd
  have hk' : (k : Int) < 4 := by omega
  have hk0 : (0 : Int) ≤ (k : Int) := by omega
  go_enter Tryd.func43, Tryd.ntmps43
  go_wp2_with fail
  refine HS.out.mono ?_
  rintro e w1 ⟨rfl, hr⟩
  have ht := HR.out w1 hr
  have c : ∃ u, w1.cell? ⟨T, k, none⟩ = some u := by
    have : k = 0 ∨ k = 1 ∨ k = 2 ∨ k = 3 := by omega
    rcases this with rfl | rfl | rfl | rfl
    · exact ⟨_, cell_at ht rfl⟩
    · exact ⟨_, cell_at ht rfl⟩
    · exact ⟨_, cell_at ht rfl⟩
    · exact ⟨_, cell_at ht rfl⟩
  obtain ⟨u, hu⟩ := c
  have fz : w1.frozen? ⟨T, k, none⟩ = false := frozen_at ht
  clear ht
  go_wp2
  go_ret
  exact ⟨rfl, w1, hr, rfl⟩

/-- Yes and this, or no and that. -/
def Goes (b : Bool) (p q : Prop) : Prop := (b = true ∧ p) ∨ (b = false ∧ q)

/-- The four as far as they have been told. -/
def upTo (k : Nat) (v : Nat → Int) (i : Nat) : Int := if i < k then v i else 0
/-- What lies in memory ahead of step k. -/
def Laid (H : Nat) (g : FuncId) (cap : Array Value) (v : Nat → Int) (k : Nat) (w : World) : Prop :=
  H + 3 ≤ w.heap.size ∧ w.heap[H + 1]? = some (.cells #[.func (.func g) #[] cap] 46) ∧ w.heap[H + 2]? = some (box (upTo k v 0) (upTo k v 1) (upTo k v 2) (upTo k v 3))
def Ahead (H : Nat) (g : FuncId) (cap : Array Value) (v : Nat → Int) (ok : Nat → Bool) (P : Nat → World → Prop) (k : Nat) (w : World) : Prop :=
  P k w ∧ (∀ i, i < k → ok i = true) ∧ Laid H g cap v k w
def Ended (H : Nat) (ok : Nat → Bool) (Q : World → Prop) (w : World) : Prop :=
  Q w ∧ (∃ i, i < 4 ∧ ok i = false) ∧ ∃ t0 t1 t2 t3, w.heap[H + 2]? = some (box t0 t1 t2 t3)

theorem put_box {w : World} {T : Nat} {t0 t1 t2 t3 : Int} (h : w.heap[T]? = some (box t0 t1 t2 t3)) (v : Int) :
    (put T 0 v w).heap[T]? = some (box v t1 t2 t3) ∧ (put T 1 v w).heap[T]? = some (box t0 v t2 t3) ∧ (put T 2 v w).heap[T]? = some (box t0 t1 v t3) ∧ (put T 3 v w).heap[T]? = some (box t0 t1 t2 v) := by
  unfold box at h
  refine ⟨?_, ?_, ?_, ?_⟩ <;> (unfold put; rw [heap_setCell_same _ _ _ _ _ _ h]; rfl)
theorem put_upTo {w : World} {T : Nat} {v : Nat → Int} (k : Nat) (hk : k < 4) (h : w.heap[T]? = some (box (upTo k v 0) (upTo k v 1) (upTo k v 2) (upTo k v 3))) :
    (put T k (v k) w).heap[T]? = some (box (upTo (k + 1) v 0) (upTo (k + 1) v 1) (upTo (k + 1) v 2) (upTo (k + 1) v 3)) := by
  have : k = 0 ∨ k = 1 ∨ k = 2 ∨ k = 3 := by omega
  rcases this with rfl | rfl | rfl | rfl
  · exact (put_box h _).1
  · exact (put_box h _).2.1
  · exact (put_box h _).2.2.1
  · exact (put_box h _).2.2.2
theorem below_put {H T k : Nat} {v : Int} {w : World} (h : H ≤ T) : Below H w (put T k v w) := (Below.refl _ _).setCell (by simpa using h) _

/-- What is known of the handed-in function at step k. -/
def Fair (H : Nat) (g : FuncId) (cap : Array Value) (x v : Nat → Int) (ok : Nat → Bool) (P : Nat → World → Prop) (Q : World → Prop) : Prop :=
  ∀ k, k < 4 → ∀ wr, H ≤ wr.heap.size → P k wr → Calls Tryd.prog g (#[.int .i64 k, .int .u64 (x k)] ++ cap) wr (Tells (v k) (ok k) fun w' => Keeps H wr w' ∧ Goes (ok k) (P (k + 1) w') (Q w'))

theorem turn_step {H : Nat} {g : FuncId} {cap : Array Value} (hf : ∀ (args : Array Value) (w : World), (callFunc g args).run Tryd.prog w = .ok (.enter g args) w)
    {x v : Nat → Int} {ok : Nat → Bool} {P : Nat → World → Prop} {Q : World → Prop} (hP : ∀ k a b, Below H a b → P k a → P k b) (hQ : ∀ a b, Below H a b → Q a → Q b) (st : Fair H g cap x v ok P Q)
    (k : Nat) (hk : k < 4) (wr : World) (h : Ahead H g cap v ok P k wr) :
    Calls Tryd.prog 43 (#[.int .i64 k, .int .u64 (x k)] ++ #[.pointer (some ⟨H + 1, 0, none⟩), .pointer (some ⟨H + 2, 0, none⟩)]) wr (Step (Ahead H g cap v ok P (k + 1)) (Ended H ok Q)) := by
  obtain ⟨hp, hall, hs, hd, ht⟩ := h
  refine (turn1 g cap hf (H + 1) (H + 2) k hk (x k) _ _ _ _ (v k) (ok k) _ wr hd (st k hk wr (by omega) hp) (fun w' hw' => (hw'.1.2 (H + 2) (by omega) (by omega)).trans ht)).mono ?_
  rintro e w' ⟨rfl, w1, ⟨hkeep, hgo⟩, rfl⟩
  have ht' := (hkeep.2 (H + 2) (by omega) (by omega)).trans ht
  have hd' := (hkeep.2 (H + 1) (by omega) (by omega)).trans hd
  have hs' : H + 3 ≤ (put (H + 2) k (v k) w1).heap.size := by have := hkeep.1; simp [put]; omega
  rcases hgo with ⟨hok, hp'⟩ | ⟨hok, hq⟩
  · rw [hok]
    refine .inl ⟨rfl, hP _ _ _ (below_put (by omega)) hp', ?_, hs', ?_, put_upTo k hk ht'⟩
    · intro i hi
      by_cases e : i = k
      · rw [e, hok]
      · exact hall i (by omega)
    · unfold put
      rw [heap_setCell_other _ _ _ _ (by simp)]
      exact hd'
  · rw [hok]
    exact .inr ⟨rfl, hQ _ _ (below_put (by omega)) hq, ⟨k, hk, hok⟩, _, _, _, _, put_upTo k hk ht'⟩

/-- What turn hands back. -/
def Turned (v : Nat → Int) (ok : Nat → Bool) (P : Nat → World → Prop) (Q : World → Prop) (e : Ending) (w' : World) : Prop :=
  ((∀ i, i < 4 → ok i = true) ∧ e = .returned (.tuple #[vec (v 0) (v 1) (v 2) (v 3), .bool true]) ∧ P 4 w') ∨ ((∃ i, i < 4 ∧ ok i = false) ∧ e = .returned (.tuple #[vec 0 0 0 0, .bool false]) ∧ Q w')

set_option maxRecDepth 100000 in
set_option maxHeartbeats 1000000 in
theorem turn_any {g : FuncId} {cap : Array Value} (hf : ∀ (args : Array Value) (w : World), (callFunc g args).run Tryd.prog w = .ok (.enter g args) w)
    {x v : Nat → Int} {ok : Nat → Bool} {P : Nat → World → Prop} {Q : World → Prop} (w : World) (hP : ∀ k a b, Below w.heap.size a b → P k a → P k b) (hQ : ∀ a b, Below w.heap.size a b → Q a → Q b) (st : Fair w.heap.size g cap x v ok P Q)
    (h0 : P 0 w) :
    Calls Tryd.prog 27 #[vec (x 0) (x 1) (x 2) (x 3), .func (.func g) #[] cap] w (Turned v ok P Q) := by
  obtain ⟨H, hH⟩ : ∃ H, H = w.heap.size := ⟨_, rfl⟩
  have hstep := fun k hk => turn_step (H := w.heap.size) hf hP hQ st k hk
  have hcl : ∀ (args : Array Value) (w : World), (callFunc 43 args).run Tryd.prog w = .ok (.enter 43 args) w := fun _ _ => by kernel_rfl
  have hat : ∀ w3 : World, w3 = ((w.alloc (box (x 0) (x 1) (x 2) (x 3))).alloc (.cells #[.func (.func g) #[] cap] 46)).alloc (box 0 0 0 0) →
      Ahead w.heap.size g cap v ok P 0 (w3.alloc (box (x 0) (x 1) (x 2) (x 3))) := by
    rintro w3 rfl
    refine ⟨hP _ _ _ ((((((Below.refl _ _).alloc (Nat.le_refl _) _).alloc (by simp) _).alloc (by simp; omega) _).alloc (by simp; omega) _)) h0, fun i hi => absurd hi (by omega), by simp, ?_, ?_⟩
    · rw [heap_alloc_old _ _ (by simp), heap_alloc_old _ _ (by simp)]
      exact heap_alloc2_new _ _ _
    · rw [heap_alloc_old _ _ (by simp)]
      exact heap_alloc_new ((w.alloc (box (x 0) (x 1) (x 2) (x 3))).alloc (.cells #[.func (.func g) #[] cap] 46)) (box 0 0 0 0) ▸ (by simp)
  have HA := Lib.hid hat
  have HE := fun W hW => Lib.hid (each_any (x 0) (x 1) (x 2) (x 3) 43 #[.pointer (some ⟨w.heap.size + 1, 0, none⟩), .pointer (some ⟨w.heap.size + 1 + 1, 0, none⟩)] (Ahead w.heap.size g cap v ok P) (Ended w.heap.size ok Q) W hcl hW
    (hstep 0 (by omega)) (hstep 1 (by omega)) (hstep 2 (by omega)) (hstep 3 (by omega)))
  clear hstep hcl hat st h0 hf hH
  unfold vec
  unfold vec box at HE HA
  go_enter Tryd.func27, Tryd.ntmps27
  go_wp2_with fail
  refine ((HE _ (HA.out _ rfl)).out).mono ?_
  rintro e w1 (⟨rfl, hgo⟩ | ⟨rfl, hno⟩)
  · obtain ⟨hp, hall, hs, hd, ht0⟩ := hgo
    have ht : w1.heap[w.heap.size + 1 + 1]? = some (box (v 0) (v 1) (v 2) (v 3)) := ht0
    obtain ⟨c0, c1, c2, c3, f0, f1, f2, f3⟩ := cells4 ht
    obtain ⟨d0, d1, d2, d3, _⟩ := cells4 (set4_box ht (v 0) (v 1) (v 2) (v 3))
    have HP := Lib.hid (hP 4 _ _ (set4_below (T := w.heap.size + 1 + 1) (a := v 0) (b := v 1) (c := v 2) (d := v 3) (Below.refl _ w1) (by omega)) hp)
    have HL := Lib.hid hall
    have HD := Lib.hid (And.intro d0 (And.intro d1 (And.intro d2 d3)))
    clear hd ht ht0 HE HA hp hall d0 d1 d2 d3 hP hQ
    go_wp2
    obtain ⟨d0, d1, d2, d3⟩ := HD.out
    unfold set4 at d0 d1 d2 d3
    refine bodyPost_ret (v := .tuple #[.agg #[.int .u64 (v 0), .int .u64 (v 1), .int .u64 (v 2), .int .u64 (v 3)], .bool true]) (by simp [results, Tryd.results27, go_sem, d0, d1, d2, d3]) rfl ?_
    exact .inl ⟨HL.out, rfl, HP.out⟩
  · obtain ⟨hq, hi, t0, t1, t2, t3, ht0⟩ := hno
    have ht : w1.heap[w.heap.size + 1 + 1]? = some (box t0 t1 t2 t3) := ht0
    obtain ⟨c0, c1, c2, c3, f0, f1, f2, f3⟩ := cells4 ht
    obtain ⟨d0, d1, d2, d3, _⟩ := cells4 (set4_box ht 0 0 0 0)
    have HP := Lib.hid (hQ _ _ (set4_below (T := w.heap.size + 1 + 1) (a := 0) (b := 0) (c := 0) (d := 0) (Below.refl _ w1) (by omega)) hq)
    have HL := Lib.hid hi
    have HD := Lib.hid (And.intro d0 (And.intro d1 (And.intro d2 d3)))
    clear ht ht0 HE HA hq hi d0 d1 d2 d3 hP hQ
    go_wp2
    obtain ⟨d0, d1, d2, d3⟩ := HD.out
    unfold set4 at d0 d1 d2 d3
    refine bodyPost_ret (v := .tuple #[.agg #[.int .u64 0, .int .u64 0, .int .u64 0, .int .u64 0], .bool false]) (by simp [results, Tryd.results27, go_sem, d0, d1, d2, d3]) rfl ?_
    exact .inr ⟨HL.out, rfl, HP.out⟩
end Go.Proofs.YtaljedficmpjpaaDoor.Vec
