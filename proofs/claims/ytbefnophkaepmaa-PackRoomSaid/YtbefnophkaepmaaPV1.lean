import Derived.Test.YtbefnophkaepmaaProg
import Derived.WalkKit
import Derived.WalkSpells
import Derived.WalkLawsBesides
import Derived.Lib.Hide
import Derived.ChangeKeysEq
import Derived.Lib.Mul64
import Derived.Shelf.Bits.Mul64
import Derived.BigQuiet
import Derived.Deep.QuietTactic
import Derived.RegionTactic
import Derived.ChangeAlike
import Derived.Below
import Derived.Deep.DeepCutAuto
import Derived.Deep.WholeRow
/- What vec.each does with whatever function is handed in: it hands it the four amounts in order, till it says no. Two amounts of four are the same just if each is. -/
namespace Go.Proofs.Ytbefnophkaepmaa.Vec
open Go.RowKit

/-- Four amounts as a value. -/
def vec (a b c d : Int) : Value := .agg #[.int .u64 a, .int .u64 b, .int .u64 c, .int .u64 d]
/-- Four amounts in memory. -/
def box (a b c d : Int) : Obj := .cells #[.int .u64 a, .int .u64 b, .int .u64 c, .int .u64 d] 26

theorem index0 (x0 x1 x2 x3 : Int) (w : World) : (Instr.index 26 (.agg #[.int .u64 x0, .int .u64 x1, .int .u64 x2, .int .u64 x3]) (.int .i64 0)).run Try.prog w = .ok (.int .u64 x0) w := by kernel_rfl
theorem index1 (x0 x1 x2 x3 : Int) (w : World) : (Instr.index 26 (.agg #[.int .u64 x0, .int .u64 x1, .int .u64 x2, .int .u64 x3]) (.int .i64 1)).run Try.prog w = .ok (.int .u64 x1) w := by kernel_rfl
theorem index2 (x0 x1 x2 x3 : Int) (w : World) : (Instr.index 26 (.agg #[.int .u64 x0, .int .u64 x1, .int .u64 x2, .int .u64 x3]) (.int .i64 2)).run Try.prog w = .ok (.int .u64 x2) w := by kernel_rfl
theorem index3 (x0 x1 x2 x3 : Int) (w : World) : (Instr.index 26 (.agg #[.int .u64 x0, .int .u64 x1, .int .u64 x2, .int .u64 x3]) (.int .i64 3)).run Try.prog w = .ok (.int .u64 x3) w := by kernel_rfl

/-- Are two amounts the same, kind by kind? -/
def same (a0 a1 a2 a3 b0 b1 b2 b3 : Int) : Bool := a0 == b0 && a1 == b1 && a2 == b2 && a3 == b3
theorem equal_vec (d : Nat) (a0 a1 a2 a3 b0 b1 b2 b3 : Int) (w : World) :
    (Op.equalIn (d + 2) 26 (.agg #[.int .u64 a0, .int .u64 a1, .int .u64 a2, .int .u64 a3]) (.agg #[.int .u64 b0, .int .u64 b1, .int .u64 b2, .int .u64 b3])).run Try.prog w = .ok (same a0 a1 a2 a3 b0 b1 b2 b3) w := by
  have hu : Try.prog.underlying 26 = some (.array 4 24) := by kernel_rfl
  obtain ⟨i, hi⟩ : ∃ i, Try.prog.info? 24 = some i := Option.isSome_iff_exists.1 (by kernel_rfl)
  have hc : Try.prog.cellsOf 24 = 1 := by kernel_rfl
  have p0 : ∀ x0 x1 x2 x3 : Int, (part 24 #[.int .u64 x0, .int .u64 x1, .int .u64 x2, .int .u64 x3] 0).run Try.prog w = .ok (.int .u64 x0) w := fun _ _ _ _ => by kernel_rfl
  have p1 : ∀ x0 x1 x2 x3 : Int, (part 24 #[.int .u64 x0, .int .u64 x1, .int .u64 x2, .int .u64 x3] 1).run Try.prog w = .ok (.int .u64 x1) w := fun _ _ _ _ => by kernel_rfl
  have p2 : ∀ x0 x1 x2 x3 : Int, (part 24 #[.int .u64 x0, .int .u64 x1, .int .u64 x2, .int .u64 x3] 2).run Try.prog w = .ok (.int .u64 x2) w := fun _ _ _ _ => by kernel_rfl
  have p3 : ∀ x0 x1 x2 x3 : Int, (part 24 #[.int .u64 x0, .int .u64 x1, .int .u64 x2, .int .u64 x3] 3).run Try.prog w = .ok (.int .u64 x3) w := fun _ _ _ _ => by kernel_rfl
  have he : ∀ a b : Int, (Op.equalIn (d + 1) 24 (.int .u64 a) (.int .u64 b)).run Try.prog w = .ok (a == b) w := fun a b => run_equalIn_int w d 24 .u64 .u64 a b Try.underlying24
  rw [run_equalIn_array w (d + 1) _ _ hu hi, hc]
  have hr : List.range 4 = [0, 1, 2, 3] := rfl
  rw [hr]
  unfold same
  simp only [Op.eqItems, Sem.run_bind, Nat.mul_one, p0, he, Result.andThen_ok]
  obtain ⟨r0, e0⟩ : ∃ r, (a0 == b0) = r := ⟨_, rfl⟩
  obtain ⟨r1, e1⟩ : ∃ r, (a1 == b1) = r := ⟨_, rfl⟩
  obtain ⟨r2, e2⟩ : ∃ r, (a2 == b2) = r := ⟨_, rfl⟩
  obtain ⟨r3, e3⟩ : ∃ r, (a3 == b3) = r := ⟨_, rfl⟩
  rw [e0, e1, e2, e3]
  cases r0 <;> simp only [Bool.not_false, Bool.not_true, if_true, if_false, Bool.false_eq_true, Sem.run_pure, Sem.run_bind, p1, he, e1, Result.andThen_ok, Bool.false_and, Bool.true_and]
  cases r1 <;> simp only [Bool.not_false, Bool.not_true, if_true, if_false, Bool.false_eq_true, Sem.run_pure, Sem.run_bind, p2, he, e2, Result.andThen_ok, Bool.false_and, Bool.true_and]
  cases r2 <;> simp only [Bool.not_false, Bool.not_true, if_true, if_false, Bool.false_eq_true, Sem.run_pure, Sem.run_bind, p3, he, e3, Result.andThen_ok, Bool.false_and, Bool.true_and]
  cases r3 <;> simp only [Bool.not_false, Bool.not_true, if_true, if_false, Bool.false_eq_true, Sem.run_pure]
theorem same_refl (a0 a1 a2 a3 : Int) : same a0 a1 a2 a3 a0 a1 a2 a3 = true := by simp [same]
theorem same_iff {a0 a1 a2 a3 b0 b1 b2 b3 : Int} : same a0 a1 a2 a3 b0 b1 b2 b3 = true ↔ a0 = b0 ∧ a1 = b1 ∧ a2 = b2 ∧ a3 = b3 := by simp [same, and_assoc]

/-- One step: the function goes on, or says no. -/
def Step (Go : World → Prop) (No : World → Prop) (e : Ending) (w' : World) : Prop := (e = .returned (.bool true) ∧ Go w') ∨ (e = .returned (.bool false) ∧ No w')

set_option maxRecDepth 100000 in
set_option maxHeartbeats 1000000 in
theorem each_any (x0 x1 x2 x3 : Int) (f : FuncId) (cap : Array Value) (Inv : Nat → World → Prop) (Stop : World → Prop) (w : World)
    (hf : ∀ (args : Array Value) (w : World), (callFunc f args).run Try.prog w = .ok (.enter f args) w)
    (h0 : Inv 0 (w.alloc (box x0 x1 x2 x3)))
    (s0 : ∀ wr, Inv 0 wr → Calls Try.prog f (#[.int .i64 0, .int .u64 x0] ++ cap) wr (Step (Inv 1) Stop))
    (s1 : ∀ wr, Inv 1 wr → Calls Try.prog f (#[.int .i64 1, .int .u64 x1] ++ cap) wr (Step (Inv 2) Stop))
    (s2 : ∀ wr, Inv 2 wr → Calls Try.prog f (#[.int .i64 2, .int .u64 x2] ++ cap) wr (Step (Inv 3) Stop))
    (s3 : ∀ wr, Inv 3 wr → Calls Try.prog f (#[.int .i64 3, .int .u64 x3] ++ cap) wr (Step (Inv 4) Stop)) :
    Calls Try.prog 35 #[vec x0 x1 x2 x3, .func (.func f) #[] cap] w (Step (Inv 4) Stop) := by
  unfold vec
  have H0 := Lib.hid s0
  have H1 := Lib.hid s1
  have H2 := Lib.hid s2
  have H3 := Lib.hid s3
  clear s0 s1 s2 s3
  unfold box at h0
  have i0 := index0 x0 x1 x2 x3
  have i1 := index1 x0 x1 x2 x3
  have i2 := index2 x0 x1 x2 x3
  have i3 := index3 x0 x1 x2 x3
  go_enter Try.func35, Try.ntmps35
  go_wp2
  go_loopw [8] (fun i wr => ∃ k : Nat, k ≤ 4 ∧ i = .int .i64 k ∧ Inv k wr) (fun i _ => 4 - (intOf i).toNat)
  case atStart => exact ⟨0, by omega, rfl, h0⟩
  case round =>
    obtain ⟨k, hk, rfl, hi⟩ := hrel
    have hk' : k = 0 ∨ k = 1 ∨ k = 2 ∨ k = 3 ∨ k = 4 := by omega
    rcases hk' with rfl | rfl | rfl | rfl | rfl
    · go_wp2_with fail
      refine (H0.out _ hi).mono ?_
      rintro e w1 (⟨rfl, hgo⟩ | ⟨rfl, hno⟩)
      · go_wp2
        go_roundw
        case rel => exact ⟨1, by omega, rfl, hgo⟩
        case measure => simp [intOf]
      · go_wp2
        go_ret
        exact .inr ⟨rfl, hno⟩
    · go_wp2_with fail
      refine (H1.out _ hi).mono ?_
      rintro e w1 (⟨rfl, hgo⟩ | ⟨rfl, hno⟩)
      · go_wp2
        go_roundw
        case rel => exact ⟨2, by omega, rfl, hgo⟩
        case measure => simp [intOf]
      · go_wp2
        go_ret
        exact .inr ⟨rfl, hno⟩
    · go_wp2_with fail
      refine (H2.out _ hi).mono ?_
      rintro e w1 (⟨rfl, hgo⟩ | ⟨rfl, hno⟩)
      · go_wp2
        go_roundw
        case rel => exact ⟨3, by omega, rfl, hgo⟩
        case measure => simp [intOf]
      · go_wp2
        go_ret
        exact .inr ⟨rfl, hno⟩
    · go_wp2_with fail
      refine (H3.out _ hi).mono ?_
      rintro e w1 (⟨rfl, hgo⟩ | ⟨rfl, hno⟩)
      · go_wp2
        go_roundw
        case rel => exact ⟨4, by omega, rfl, hgo⟩
        case measure => simp [intOf]
      · go_wp2
        go_ret
        exact .inr ⟨rfl, hno⟩
    · go_wp2
      go_ret
      exact .inl ⟨rfl, hi⟩
end Go.Proofs.Ytbefnophkaepmaa.Vec

/- What vec.turn makes of whatever function is handed in: the four answers, if it says yes each time; nothing and false, if not. -/
namespace Go.Proofs.Ytbefnophkaepmaa.Vec
open Go.RowKit

/-- Blocks from H on that were there are as they were. -/
def Keeps (H : Nat) (w w' : World) : Prop := w.heap.size ≤ w'.heap.size ∧ ∀ k, H ≤ k → k < w.heap.size → w'.heap[k]? = w.heap[k]?
theorem Keeps.refl (H : Nat) (w : World) : Keeps H w w := ⟨Nat.le_refl _, fun _ _ _ => rfl⟩
theorem Keeps.trans {H : Nat} {a b c : World} (h : Keeps H a b) (k : Keeps H b c) : Keeps H a c :=
  ⟨Nat.le_trans h.1 k.1, fun i h1 h2 => (k.2 i h1 (Nat.lt_of_lt_of_le h2 h.1)).trans (h.2 i h1 h2)⟩
theorem Keeps.drewN (H : Nat) (w : World) (n : Nat) : Keeps H w (w.drewN n) := ⟨Nat.le_refl _, fun _ _ _ => rfl⟩
theorem Keeps.of_below {H : Nat} {w w' : World} (h : Below w.heap.size w w') : Keeps H w w' := ⟨h.size, fun k _ hk => h.block k hk⟩
theorem Keeps.set {H : Nat} {w w' : World} (h : Keeps H w w') {a : Addr} (ha : a.block < H) (v : Value) : Keeps H w (w'.setCell a v) :=
  ⟨by simpa using h.1, fun k h1 h2 => (heap_setCell_other _ _ _ _ (by omega)).trans (h.2 k h1 h2)⟩

theorem cell_at {w : World} {b i : Nat} {cs : Array Value} {t : TypeId} {v : Value} (h : w.heap[b]? = some (.cells cs t)) (hi : cs[i]? = some v) : w.cell? ⟨b, i, none⟩ = some v := by
  simp [World.cell?, h, hi]
theorem frozen_at {w : World} {b i : Nat} {cs : Array Value} {t : TypeId} (h : w.heap[b]? = some (.cells cs t)) : w.frozen? ⟨b, i, none⟩ = false := by
  simp [World.frozen?, h]

/-- The cells of four amounts in memory. -/
theorem cells4 {w : World} {T : Nat} {t0 t1 t2 t3 : Int} (h : w.heap[T]? = some (box t0 t1 t2 t3)) :
    w.cell? ⟨T, 0, none⟩ = some (.int .u64 t0) ∧ w.cell? ⟨T, 1, none⟩ = some (.int .u64 t1) ∧ w.cell? ⟨T, 2, none⟩ = some (.int .u64 t2) ∧ w.cell? ⟨T, 3, none⟩ = some (.int .u64 t3) ∧
    w.frozen? ⟨T, 0, none⟩ = false ∧ w.frozen? ⟨T, 1, none⟩ = false ∧ w.frozen? ⟨T, 2, none⟩ = false ∧ w.frozen? ⟨T, 3, none⟩ = false :=
  ⟨cell_at h rfl, cell_at h rfl, cell_at h rfl, cell_at h rfl, frozen_at h, frozen_at h, frozen_at h, frozen_at h⟩

/-- Four amounts stored. -/
def set4 (T : Nat) (a b c d : Int) (w : World) : World :=
  (((w.setCell ⟨T, 0, none⟩ (.int .u64 a)).setCell ⟨T, 1, none⟩ (.int .u64 b)).setCell ⟨T, 2, none⟩ (.int .u64 c)).setCell ⟨T, 3, none⟩ (.int .u64 d)
theorem set4_box {w : World} {T : Nat} {t0 t1 t2 t3 : Int} (h : w.heap[T]? = some (box t0 t1 t2 t3)) (a b c d : Int) : (set4 T a b c d w).heap[T]? = some (box a b c d) := by
  unfold box at h
  unfold set4
  have h1 := heap_setCell_same w T 0 _ _ (.int .u64 a) h
  have h2 := heap_setCell_same _ T 1 _ _ (.int .u64 b) h1
  have h3 := heap_setCell_same _ T 2 _ _ (.int .u64 c) h2
  have h4 := heap_setCell_same _ T 3 _ _ (.int .u64 d) h3
  rw [h4]
  rfl
theorem set4_below {H T : Nat} {a b c d : Int} {w0 w : World} (h : Below H w0 w) (hT : H ≤ T) : Below H w0 (set4 T a b c d w) :=
  (((h.setCell hT _).setCell hT _).setCell hT _).setCell hT _
theorem set4_size (T : Nat) (a b c d : Int) (w : World) : (set4 T a b c d w).heap.size = w.heap.size := by simp [set4]

/-- What was told of the handed-in function: a number and a yes or no, and what became of memory. -/
def Tells (v : Int) (ok : Bool) (R : World → Prop) (e : Ending) (w' : World) : Prop := e = .returned (.tuple #[.int .u64 v, .bool ok]) ∧ R w'

/-- A number stored into one of the four. -/
def put (H k : Nat) (v : Int) (w : World) : World := w.setCell ⟨H, k, none⟩ (.int .u64 v)

set_option maxRecDepth 100000 in
set_option maxHeartbeats 1000000 in
theorem turn1 (g : FuncId) (cap : Array Value) (hf : ∀ (args : Array Value) (w : World), (callFunc g args).run Try.prog w = .ok (.enter g args) w)
    (D T : Nat) (k : Nat) (hk : k < 4) (x t0 t1 t2 t3 v : Int) (ok : Bool) (R : World → Prop) (wr : World)
    (hd : wr.heap[D]? = some (.cells #[.func (.func g) #[] cap] 95))
    (st : Calls Try.prog g (#[.int .i64 k, .int .u64 x] ++ cap) wr (Tells v ok R))
    (hR : ∀ w', R w' → w'.heap[T]? = some (box t0 t1 t2 t3)) :
    Calls Try.prog 50 #[.int .i64 k, .int .u64 x, .pointer (some ⟨D, 0, none⟩), .pointer (some ⟨T, 0, none⟩)] wr fun e w' => e = .returned (.bool ok) ∧ ∃ w1, R w1 ∧ w' = put T k v w1 := by
  have hc := cell_at (i := 0) hd rfl
  have HS := Lib.hid st
  have HR := Lib.hid hR
  clear st hR hd
  have hk' : (k : Int) < 4 := by omega
  have hk0 : (0 : Int) ≤ (k : Int) := by omega
  go_enter Try.func50, Try.ntmps50
  go_wp2_with fail
  refine HS.out.mono ?_
  rintro e w1 ⟨rfl, hr⟩
  have ht := HR.out w1 hr
  have c : ∃ u, w1.cell? ⟨T, k, none⟩ = some u := by
    have : k = 0 ∨ k = 1 ∨ k = 2 ∨ k = 3 := by omega
    rcases this with rfl | rfl | rfl | rfl
    · exact ⟨_, cell_at ht rfl⟩
    · exact ⟨_, cell_at ht rfl⟩
    · exact ⟨_, cell_at ht rfl⟩
    · exact ⟨_, cell_at ht rfl⟩
  obtain ⟨u, hu⟩ := c
  have fz : w1.frozen? ⟨T, k, none⟩ = false := frozen_at ht
  clear ht
  go_wp2
  go_ret
  exact ⟨rfl, w1, hr, rfl⟩

/-- Yes and this, or no and that. -/
def Goes (b : Bool) (p q : Prop) : Prop := (b = true ∧ p) ∨ (b = false ∧ q)

/-- The four as far as they have been told. -/
def upTo (k : Nat) (v : Nat → Int) (i : Nat) : Int := if i < k then v i else 0
/-- What lies in memory ahead of step k. -/
def Laid (H : Nat) (g : FuncId) (cap : Array Value) (v : Nat → Int) (k : Nat) (w : World) : Prop :=
  H + 3 ≤ w.heap.size ∧ w.heap[H + 1]? = some (.cells #[.func (.func g) #[] cap] 95) ∧ w.heap[H + 2]? = some (box (upTo k v 0) (upTo k v 1) (upTo k v 2) (upTo k v 3))
def Ahead (H : Nat) (g : FuncId) (cap : Array Value) (v : Nat → Int) (ok : Nat → Bool) (P : Nat → World → Prop) (k : Nat) (w : World) : Prop :=
  P k w ∧ (∀ i, i < k → ok i = true) ∧ Laid H g cap v k w
def Ended (H : Nat) (ok : Nat → Bool) (Q : World → Prop) (w : World) : Prop :=
  Q w ∧ (∃ i, i < 4 ∧ ok i = false) ∧ ∃ t0 t1 t2 t3, w.heap[H + 2]? = some (box t0 t1 t2 t3)

theorem put_box {w : World} {T : Nat} {t0 t1 t2 t3 : Int} (h : w.heap[T]? = some (box t0 t1 t2 t3)) (v : Int) :
    (put T 0 v w).heap[T]? = some (box v t1 t2 t3) ∧ (put T 1 v w).heap[T]? = some (box t0 v t2 t3) ∧ (put T 2 v w).heap[T]? = some (box t0 t1 v t3) ∧ (put T 3 v w).heap[T]? = some (box t0 t1 t2 v) := by
  unfold box at h
  refine ⟨?_, ?_, ?_, ?_⟩ <;> (unfold put; rw [heap_setCell_same _ _ _ _ _ _ h]; rfl)
theorem put_upTo {w : World} {T : Nat} {v : Nat → Int} (k : Nat) (hk : k < 4) (h : w.heap[T]? = some (box (upTo k v 0) (upTo k v 1) (upTo k v 2) (upTo k v 3))) :
    (put T k (v k) w).heap[T]? = some (box (upTo (k + 1) v 0) (upTo (k + 1) v 1) (upTo (k + 1) v 2) (upTo (k + 1) v 3)) := by
  have : k = 0 ∨ k = 1 ∨ k = 2 ∨ k = 3 := by omega
  rcases this with rfl | rfl | rfl | rfl
  · exact (put_box h _).1
  · exact (put_box h _).2.1
  · exact (put_box h _).2.2.1
  · exact (put_box h _).2.2.2
theorem below_put {H T k : Nat} {v : Int} {w : World} (h : H ≤ T) : Below H w (put T k v w) := (Below.refl _ _).setCell (by simpa using h) _

/-- What is known of the handed-in function at step k. -/
def Fair (H : Nat) (g : FuncId) (cap : Array Value) (x v : Nat → Int) (ok : Nat → Bool) (P : Nat → World → Prop) (Q : World → Prop) : Prop :=
  ∀ k, k < 4 → ∀ wr, H ≤ wr.heap.size → P k wr → Calls Try.prog g (#[.int .i64 k, .int .u64 (x k)] ++ cap) wr (Tells (v k) (ok k) fun w' => Keeps H wr w' ∧ Goes (ok k) (P (k + 1) w') (Q w'))

theorem turn_step {H : Nat} {g : FuncId} {cap : Array Value} (hf : ∀ (args : Array Value) (w : World), (callFunc g args).run Try.prog w = .ok (.enter g args) w)
    {x v : Nat → Int} {ok : Nat → Bool} {P : Nat → World → Prop} {Q : World → Prop} (hP : ∀ k a b, Below H a b → P k a → P k b) (hQ : ∀ a b, Below H a b → Q a → Q b) (st : Fair H g cap x v ok P Q)
    (k : Nat) (hk : k < 4) (wr : World) (h : Ahead H g cap v ok P k wr) :
    Calls Try.prog 50 (#[.int .i64 k, .int .u64 (x k)] ++ #[.pointer (some ⟨H + 1, 0, none⟩), .pointer (some ⟨H + 2, 0, none⟩)]) wr (Step (Ahead H g cap v ok P (k + 1)) (Ended H ok Q)) := by
  obtain ⟨hp, hall, hs, hd, ht⟩ := h
  refine (turn1 g cap hf (H + 1) (H + 2) k hk (x k) _ _ _ _ (v k) (ok k) _ wr hd (st k hk wr (by omega) hp) (fun w' hw' => (hw'.1.2 (H + 2) (by omega) (by omega)).trans ht)).mono ?_
  rintro e w' ⟨rfl, w1, ⟨hkeep, hgo⟩, rfl⟩
  have ht' := (hkeep.2 (H + 2) (by omega) (by omega)).trans ht
  have hd' := (hkeep.2 (H + 1) (by omega) (by omega)).trans hd
  have hs' : H + 3 ≤ (put (H + 2) k (v k) w1).heap.size := by have := hkeep.1; simp [put]; omega
  rcases hgo with ⟨hok, hp'⟩ | ⟨hok, hq⟩
  · rw [hok]
    refine .inl ⟨rfl, hP _ _ _ (below_put (by omega)) hp', ?_, hs', ?_, put_upTo k hk ht'⟩
    · intro i hi
      by_cases e : i = k
      · rw [e, hok]
      · exact hall i (by omega)
    · unfold put
      rw [heap_setCell_other _ _ _ _ (by simp)]
      exact hd'
  · rw [hok]
    exact .inr ⟨rfl, hQ _ _ (below_put (by omega)) hq, ⟨k, hk, hok⟩, _, _, _, _, put_upTo k hk ht'⟩

/-- What turn hands back. -/
def Turned (v : Nat → Int) (ok : Nat → Bool) (P : Nat → World → Prop) (Q : World → Prop) (e : Ending) (w' : World) : Prop :=
  ((∀ i, i < 4 → ok i = true) ∧ e = .returned (.tuple #[vec (v 0) (v 1) (v 2) (v 3), .bool true]) ∧ P 4 w') ∨ ((∃ i, i < 4 ∧ ok i = false) ∧ e = .returned (.tuple #[vec 0 0 0 0, .bool false]) ∧ Q w')

set_option maxRecDepth 100000 in
set_option maxHeartbeats 1000000 in
theorem turn_any {g : FuncId} {cap : Array Value} (hf : ∀ (args : Array Value) (w : World), (callFunc g args).run Try.prog w = .ok (.enter g args) w)
    {x v : Nat → Int} {ok : Nat → Bool} {P : Nat → World → Prop} {Q : World → Prop} (w : World) (hP : ∀ k a b, Below w.heap.size a b → P k a → P k b) (hQ : ∀ a b, Below w.heap.size a b → Q a → Q b) (st : Fair w.heap.size g cap x v ok P Q)
    (h0 : P 0 w) :
    Calls Try.prog 47 #[vec (x 0) (x 1) (x 2) (x 3), .func (.func g) #[] cap] w (Turned v ok P Q) := by
  obtain ⟨H, hH⟩ : ∃ H, H = w.heap.size := ⟨_, rfl⟩
  have hstep := fun k hk => turn_step (H := w.heap.size) hf hP hQ st k hk
  have hcl : ∀ (args : Array Value) (w : World), (callFunc 50 args).run Try.prog w = .ok (.enter 50 args) w := fun _ _ => by kernel_rfl
  have hat : ∀ w3 : World, w3 = ((w.alloc (box (x 0) (x 1) (x 2) (x 3))).alloc (.cells #[.func (.func g) #[] cap] 95)).alloc (box 0 0 0 0) →
      Ahead w.heap.size g cap v ok P 0 (w3.alloc (box (x 0) (x 1) (x 2) (x 3))) := by
    rintro w3 rfl
    refine ⟨hP _ _ _ ((((((Below.refl _ _).alloc (Nat.le_refl _) _).alloc (by simp) _).alloc (by simp; omega) _).alloc (by simp; omega) _)) h0, fun i hi => absurd hi (by omega), by simp, ?_, ?_⟩
    · rw [heap_alloc_old _ _ (by simp), heap_alloc_old _ _ (by simp)]
      exact heap_alloc2_new _ _ _
    · rw [heap_alloc_old _ _ (by simp)]
      exact heap_alloc_new ((w.alloc (box (x 0) (x 1) (x 2) (x 3))).alloc (.cells #[.func (.func g) #[] cap] 95)) (box 0 0 0 0) ▸ (by simp)
  have HA := Lib.hid hat
  have HE := fun W hW => Lib.hid (each_any (x 0) (x 1) (x 2) (x 3) 50 #[.pointer (some ⟨w.heap.size + 1, 0, none⟩), .pointer (some ⟨w.heap.size + 1 + 1, 0, none⟩)] (Ahead w.heap.size g cap v ok P) (Ended w.heap.size ok Q) W hcl hW
    (hstep 0 (by omega)) (hstep 1 (by omega)) (hstep 2 (by omega)) (hstep 3 (by omega)))
  clear hstep hcl hat st h0 hf hH
  unfold vec
  unfold vec box at HE HA
  go_enter Try.func47, Try.ntmps47
  go_wp2_with fail
  refine ((HE _ (HA.out _ rfl)).out).mono ?_
  rintro e w1 (⟨rfl, hgo⟩ | ⟨rfl, hno⟩)
  · obtain ⟨hp, hall, hs, hd, ht0⟩ := hgo
    have ht : w1.heap[w.heap.size + 1 + 1]? = some (box (v 0) (v 1) (v 2) (v 3)) := ht0
    obtain ⟨c0, c1, c2, c3, f0, f1, f2, f3⟩ := cells4 ht
    obtain ⟨d0, d1, d2, d3, _⟩ := cells4 (set4_box ht (v 0) (v 1) (v 2) (v 3))
    have HP := Lib.hid (hP 4 _ _ (set4_below (T := w.heap.size + 1 + 1) (a := v 0) (b := v 1) (c := v 2) (d := v 3) (Below.refl _ w1) (by omega)) hp)
    have HL := Lib.hid hall
    have HD := Lib.hid (And.intro d0 (And.intro d1 (And.intro d2 d3)))
    clear hd ht ht0 HE HA hp hall d0 d1 d2 d3 hP hQ
    go_wp2
    obtain ⟨d0, d1, d2, d3⟩ := HD.out
    unfold set4 at d0 d1 d2 d3
    refine bodyPost_ret (v := .tuple #[.agg #[.int .u64 (v 0), .int .u64 (v 1), .int .u64 (v 2), .int .u64 (v 3)], .bool true]) (by simp [results, Try.results47, go_sem, d0, d1, d2, d3]) rfl ?_
    exact .inl ⟨HL.out, rfl, HP.out⟩
  · obtain ⟨hq, hi, t0, t1, t2, t3, ht0⟩ := hno
    have ht : w1.heap[w.heap.size + 1 + 1]? = some (box t0 t1 t2 t3) := ht0
    obtain ⟨c0, c1, c2, c3, f0, f1, f2, f3⟩ := cells4 ht
    obtain ⟨d0, d1, d2, d3, _⟩ := cells4 (set4_box ht 0 0 0 0)
    have HP := Lib.hid (hQ _ _ (set4_below (T := w.heap.size + 1 + 1) (a := 0) (b := 0) (c := 0) (d := 0) (Below.refl _ w1) (by omega)) hq)
    have HL := Lib.hid hi
    have HD := Lib.hid (And.intro d0 (And.intro d1 (And.intro d2 d3)))
    clear ht ht0 HE HA hq hi d0 d1 d2 d3 hP hQ
    go_wp2
    obtain ⟨d0, d1, d2, d3⟩ := HD.out
    unfold set4 at d0 d1 d2 d3
    refine bodyPost_ret (v := .tuple #[.agg #[.int .u64 0, .int .u64 0, .int .u64 0, .int .u64 0], .bool false]) (by simp [results, Try.results47, go_sem, d0, d1, d2, d3]) rfl ?_
    exact .inr ⟨HL.out, rfl, HP.out⟩
end Go.Proofs.Ytbefnophkaepmaa.Vec

/- What wire.Add, wire.Sub and wire.Mul answer, for every two numbers of 64 bits: the sum, difference or product and true, or 0 and false; the world stays as it was. -/
namespace Go.Proofs.Ytbefnophkaepmaa.Num
open Go.RowKit




theorem sub_yes (a b : Int) (ha : 0 ≤ a) (hb : 0 ≤ b) (ha' : a ≤ 18446744073709551615) (h : b ≤ a) (w : World) :
    Calls Try.prog 34 #[.int .u64 a, .int .u64 b] w fun e w' => e = .returned (.tuple #[.int .u64 (a - b), .bool true]) ∧ w = w' := by
  go_enter Try.func34, Try.ntmps34
  go_wp2
  go_ret2
  exact ⟨rfl, rfl⟩

theorem sub_no (a b : Int) (h : a < b) (w : World) :
    Calls Try.prog 34 #[.int .u64 a, .int .u64 b] w fun e w' => e = .returned (.tuple #[.int .u64 0, .bool false]) ∧ w = w' := by
  go_enter Try.func34, Try.ntmps34
  go_wp2
  go_ret2
  exact ⟨rfl, rfl⟩

/-- No step of the school method on halves of 32 bits goes round. -/
theorem mul_steps (x y : Nat) (hx : x < 18446744073709551616) (hy : y < 18446744073709551616) :
    x / 4294967296 * (y / 4294967296) < 18446744073709551616 ∧ x / 4294967296 * (y % 4294967296) < 18446744073709551616 ∧ x % 4294967296 * (y / 4294967296) < 18446744073709551616 ∧
    x / 4294967296 * (y / 4294967296) + (x / 4294967296 * (y % 4294967296) + x % 4294967296 * (y % 4294967296) / 4294967296) / 4294967296 < 18446744073709551616 := by
  have h1 := Lib.half_mul_le (a := x / 4294967296) (b := y / 4294967296) (by omega) (by omega)
  have h2 := Lib.half_mul_le (a := x / 4294967296) (b := y % 4294967296) (by omega) (by omega)
  have h3 := Lib.half_mul_le (a := x % 4294967296) (b := y / 4294967296) (by omega) (by omega)
  have h4 := Lib.half_mul_le (a := x % 4294967296) (b := y % 4294967296) (by omega) (by omega)
  refine ⟨?_, ?_, ?_, ?_⟩ <;> omega

theorem high_lt (x y : Nat) (hx : x < 18446744073709551616) (hy : y < 18446744073709551616) : x * y / 18446744073709551616 < 18446744073709551616 := by
  rw [Nat.div_lt_iff_lt_mul (by decide)]
  exact Nat.mul_lt_mul'' hx hy



end Go.Proofs.Ytbefnophkaepmaa.Num

/- What vec.join, Add, Sub and Times answer, for every amounts: amount by amount what wire's Add, Sub, Mul answer; nothing and false, if one of these says no; of memory that was there nothing turns. -/
namespace Go.Proofs.Ytbefnophkaepmaa.Vec
open Go.RowKit

/-- What a pure function of two numbers answers. -/
def Pure2 (op : FuncId) (x y v : Int) (ok : Bool) : Prop := ∀ w, Calls Try.prog op #[.int .u64 x, .int .u64 y] w fun e w' => e = .returned (.tuple #[.int .u64 v, .bool ok]) ∧ w = w'

set_option maxRecDepth 100000 in
set_option maxHeartbeats 1000000 in
theorem join1 (op : FuncId) (hf : ∀ (args : Array Value) (w : World), (callFunc op args).run Try.prog w = .ok (.enter op args) w)
    (D B k : Nat) (hk : k < 4) (x y v : Int) (ok : Bool) (wr : World) (hd : wr.cell? ⟨D, 0, none⟩ = some (.func (.func op) #[] #[])) (hb : wr.cell? ⟨B, k, none⟩ = some (.int .u64 y)) (st : Pure2 op x y v ok) :
    Calls Try.prog 48 #[.int .i64 k, .int .u64 x, .pointer (some ⟨D, 0, none⟩), .pointer (some ⟨B, 0, none⟩)] wr fun e w' => e = .returned (.tuple #[.int .u64 v, .bool ok]) ∧ ∃ n, w' = wr.drewN n := by
  have HS := Lib.hid st
  clear st
  have hk' : (k : Int) < 4 := by omega
  have hk0 : (0 : Int) ≤ (k : Int) := by omega
  go_enter Try.func48, Try.ntmps48
  go_wp2_with fail
  go_quiet ((exact Calls.quiet_of_same ((HS.out _).mono fun _ _ h => ⟨h.1, h.2.symm⟩)))
  go_wp2
  go_ret2
  exact ⟨rfl, _, rfl⟩

/-- What join has laid. -/
def Joined (w0 : World) (H : Nat) (op : FuncId) (y : Nat → Int) (w : World) : Prop :=
  Below H w0 w ∧ H + 4 ≤ w.heap.size ∧ w.heap[H + 1]? = some (box (y 0) (y 1) (y 2) (y 3)) ∧ w.heap[H + 2]? = some (.cells #[.func (.func op) #[] #[]] 78) ∧ w.heap[H + 3]? = some (box 0 0 0 0)
theorem Joined.later {w0 : World} {H : Nat} {op : FuncId} {y : Nat → Int} {a b : World} (hab : Below (H + 4) a b) (h : Joined w0 H op y a) : Joined w0 H op y b :=
  ⟨h.1.trans (hab.mono (by omega)), Nat.le_trans h.2.1 hab.size, (hab.block _ (by omega)).trans h.2.2.1, (hab.block _ (by omega)).trans h.2.2.2.1, (hab.block _ (by omega)).trans h.2.2.2.2⟩
theorem Joined.drewN {w0 : World} {H : Nat} {op : FuncId} {y : Nat → Int} {a : World} (h : Joined w0 H op y a) (n : Nat) : Joined w0 H op y (a.drewN n) :=
  ⟨below_drewN h.1 n, h.2⟩
theorem cell4 {w : World} {T : Nat} {y : Nat → Int} (h : w.heap[T]? = some (box (y 0) (y 1) (y 2) (y 3))) (k : Nat) (hk : k < 4) : w.cell? ⟨T, k, none⟩ = some (.int .u64 (y k)) := by
  obtain ⟨c0, c1, c2, c3, _⟩ := cells4 h
  have : k = 0 ∨ k = 1 ∨ k = 2 ∨ k = 3 := by omega
  rcases this with rfl | rfl | rfl | rfl
  · exact c0
  · exact c1
  · exact c2
  · exact c3
theorem goes_same (b : Bool) {p : Prop} (h : p) : Goes b p p := match b with | true => .inl ⟨rfl, h⟩ | false => .inr ⟨rfl, h⟩

theorem join_fair {w0 : World} {H : Nat} (op : FuncId) (hf : ∀ (args : Array Value) (w : World), (callFunc op args).run Try.prog w = .ok (.enter op args) w) {x y v : Nat → Int} {ok : Nat → Bool}
    (st : ∀ k, k < 4 → Pure2 op (x k) (y k) (v k) (ok k)) :
    Fair (H + 4) 48 #[.pointer (some ⟨H + 2, 0, none⟩), .pointer (some ⟨H + 1, 0, none⟩)] x v ok (fun _ => Joined w0 H op y) (Joined w0 H op y) := by
  intro k hk wr hs hp
  refine (join1 op hf (H + 2) (H + 1) k hk (x k) (y k) (v k) (ok k) wr (cell_at hp.2.2.2.1 rfl) (cell4 hp.2.2.1 k hk) (st k hk)).mono ?_
  rintro e w' ⟨rfl, n, rfl⟩
  exact ⟨rfl, Keeps.drewN _ _ _, goes_same _ (hp.drewN n)⟩

/-- What is handed back of four answers. -/
def Four (v : Nat → Int) (ok : Nat → Bool) (w0 : World) (e : Ending) (w' : World) : Prop :=
  (((∀ i, i < 4 → ok i = true) ∧ e = .returned (.tuple #[vec (v 0) (v 1) (v 2) (v 3), .bool true])) ∨ ((∃ i, i < 4 ∧ ok i = false) ∧ e = .returned (.tuple #[vec 0 0 0 0, .bool false]))) ∧ Below w0.heap.size w0 w'

set_option maxRecDepth 100000 in
set_option maxHeartbeats 1000000 in
theorem join_any (op : FuncId) (hf : ∀ (args : Array Value) (w : World), (callFunc op args).run Try.prog w = .ok (.enter op args) w) (x y v : Nat → Int) (ok : Nat → Bool)
    (st : ∀ k, k < 4 → Pure2 op (x k) (y k) (v k) (ok k)) (w : World) :
    Calls Try.prog 33 #[vec (x 0) (x 1) (x 2) (x 3), vec (y 0) (y 1) (y 2) (y 3), .func (.func op) #[] #[]] w (Four v ok w) := by
  have hcl : ∀ (args : Array Value) (w : World), (callFunc 48 args).run Try.prog w = .ok (.enter 48 args) w := fun _ _ => by kernel_rfl
  have hat : ∀ W : World, W = (((w.alloc (box (x 0) (x 1) (x 2) (x 3))).alloc (box (y 0) (y 1) (y 2) (y 3))).alloc (.cells #[.func (.func op) #[] #[]] 78)).alloc (box 0 0 0 0) →
      W.heap.size = w.heap.size + 4 ∧ Joined w w.heap.size op y W := by
    rintro W rfl
    refine ⟨by simp, (((((Below.refl _ _).alloc (Nat.le_refl _) _).alloc (by simp) _).alloc (by simp; omega) _).alloc (by simp; omega) _), by simp, ?_, ?_, ?_⟩
    · rw [heap_alloc_old _ _ (by simp), heap_alloc_old _ _ (by simp)]
      exact heap_alloc2_new _ _ _
    · rw [heap_alloc_old _ _ (by simp)]
      exact heap_alloc_new ((w.alloc (box (x 0) (x 1) (x 2) (x 3))).alloc (box (y 0) (y 1) (y 2) (y 3))) _ ▸ (by simp)
    · exact heap_alloc_new (((w.alloc (box (x 0) (x 1) (x 2) (x 3))).alloc (box (y 0) (y 1) (y 2) (y 3))).alloc (.cells #[.func (.func op) #[] #[]] 78)) (box 0 0 0 0) ▸ (by simp)
  have HT : ∀ W, W = (((w.alloc (box (x 0) (x 1) (x 2) (x 3))).alloc (box (y 0) (y 1) (y 2) (y 3))).alloc (.cells #[.func (.func op) #[] #[]] 78)).alloc (box 0 0 0 0) →
      Hid (Calls Try.prog 47 #[vec (x 0) (x 1) (x 2) (x 3), .func (.func 48) #[] #[.pointer (some ⟨w.heap.size + 1 + 1, 0, none⟩), .pointer (some ⟨w.heap.size + 1, 0, none⟩)]] W (Turned v ok (fun _ => Joined w w.heap.size op y) (Joined w w.heap.size op y))) := by
    intro W hW
    obtain ⟨hs, hj⟩ := hat W hW
    exact Lib.hid (turn_any hcl W (fun _ a b hab h => h.later (by rw [hs] at hab; exact hab)) (fun a b hab h => h.later (by rw [hs] at hab; exact hab)) (by rw [hs]; exact join_fair op hf st) hj)
  clear hat st hf hcl
  unfold vec
  unfold vec box at HT
  go_enter Try.func33, Try.ntmps33
  go_wp2_with fail
  refine ((HT _ rfl).out).mono ?_
  clear HT
  rintro e w1 (⟨hall, rfl, hj⟩ | ⟨hsome, rfl, hj⟩)
  · obtain ⟨hb, _, _, _, ht0⟩ := hj
    have ht : w1.heap[w.heap.size + 1 + 1 + 1]? = some (box 0 0 0 0) := ht0
    obtain ⟨c0, c1, c2, c3, f0, f1, f2, f3⟩ := cells4 ht
    obtain ⟨d0, d1, d2, d3, _⟩ := cells4 (set4_box ht (v 0) (v 1) (v 2) (v 3))
    have HL := Lib.hid hall
    have HB := Lib.hid (set4_below (T := w.heap.size + 1 + 1 + 1) (a := v 0) (b := v 1) (c := v 2) (d := v 3) hb (by omega))
    have HD := Lib.hid (And.intro d0 (And.intro d1 (And.intro d2 d3)))
    clear ht ht0 hall d0 d1 d2 d3 hb
    unfold vec
    go_wp2
    obtain ⟨d0, d1, d2, d3⟩ := HD.out
    unfold set4 at d0 d1 d2 d3
    refine bodyPost_ret (v := .tuple #[.agg #[.int .u64 (v 0), .int .u64 (v 1), .int .u64 (v 2), .int .u64 (v 3)], .bool true]) (by simp [results, Try.results33, go_sem, d0, d1, d2, d3]) rfl ?_
    exact ⟨.inl ⟨HL.out, rfl⟩, HB.out⟩
  · obtain ⟨hb, _, _, _, ht0⟩ := hj
    have ht : w1.heap[w.heap.size + 1 + 1 + 1]? = some (box 0 0 0 0) := ht0
    obtain ⟨c0, c1, c2, c3, f0, f1, f2, f3⟩ := cells4 ht
    obtain ⟨d0, d1, d2, d3, _⟩ := cells4 (set4_box ht 0 0 0 0)
    have HL := Lib.hid hsome
    have HB := Lib.hid (set4_below (T := w.heap.size + 1 + 1 + 1) (a := 0) (b := 0) (c := 0) (d := 0) hb (by omega))
    have HD := Lib.hid (And.intro d0 (And.intro d1 (And.intro d2 d3)))
    clear ht ht0 hsome d0 d1 d2 d3 hb
    unfold vec
    go_wp2
    obtain ⟨d0, d1, d2, d3⟩ := HD.out
    unfold set4 at d0 d1 d2 d3
    refine bodyPost_ret (v := .tuple #[.agg #[.int .u64 0, .int .u64 0, .int .u64 0, .int .u64 0], .bool false]) (by simp [results, Try.results33, go_sem, d0, d1, d2, d3]) rfl ?_
    exact ⟨.inr ⟨HL.out, rfl⟩, HB.out⟩


set_option maxRecDepth 100000 in
set_option maxHeartbeats 1000000 in
theorem sub_four (x y v : Nat → Int) (ok : Nat → Bool) (st : ∀ k, k < 4 → Pure2 34 (x k) (y k) (v k) (ok k)) (w : World) :
    Calls Try.prog 19 #[vec (x 0) (x 1) (x 2) (x 3), vec (y 0) (y 1) (y 2) (y 3)] w (Four v ok w) := by
  have hcl : ∀ (args : Array Value) (w : World), (callFunc 34 args).run Try.prog w = .ok (.enter 34 args) w := fun _ _ => by kernel_rfl
  have HT := fun W => Lib.hid (join_any 34 hcl x y v ok st W)
  have hat : ∀ W : World, W = ((w.alloc (box (x 0) (x 1) (x 2) (x 3))).alloc (box (y 0) (y 1) (y 2) (y 3))).alloc (box 0 0 0 0) → ∀ w1, Below W.heap.size W w1 → Below w.heap.size w w1 ∧ w1.heap[w.heap.size + 1 + 1]? = some (box 0 0 0 0) := by
    rintro W rfl w1 h
    refine ⟨((((Below.refl _ _).alloc (Nat.le_refl _) _).alloc (by simp) _).alloc (by simp; omega) _).trans (h.mono (by simp; omega)), ?_⟩
    rw [h.block _ (by simp)]
    exact heap_alloc_new ((w.alloc (box (x 0) (x 1) (x 2) (x 3))).alloc (box (y 0) (y 1) (y 2) (y 3))) (box 0 0 0 0) ▸ (by simp)
  have HA := Lib.hid hat
  clear hat st hcl
  unfold vec
  unfold vec at HT
  unfold box at HA
  go_enter Try.func19, Try.ntmps19
  go_wp2_with fail
  refine ((HT _).out).mono ?_
  clear HT
  rintro e w1 ⟨(⟨hall, rfl⟩ | ⟨hall, rfl⟩), hb0⟩
  · obtain ⟨hb, ht0⟩ := HA.out _ rfl w1 hb0
    clear HA hb0
    have ht := ht0
    obtain ⟨c0, c1, c2, c3, f0, f1, f2, f3⟩ := cells4 ht
    obtain ⟨d0, d1, d2, d3, _⟩ := cells4 (set4_box ht (v 0) (v 1) (v 2) (v 3))
    have HL := Lib.hid hall
    have HB := Lib.hid (set4_below (T := w.heap.size + 1 + 1) (a := (v 0)) (b := (v 1)) (c := (v 2)) (d := (v 3)) hb (by omega))
    have HD := Lib.hid (And.intro d0 (And.intro d1 (And.intro d2 d3)))
    clear ht ht0 hall d0 d1 d2 d3 hb
    unfold vec
    go_wp2
    obtain ⟨d0, d1, d2, d3⟩ := HD.out
    unfold set4 at d0 d1 d2 d3
    refine bodyPost_ret (v := .tuple #[.agg #[.int .u64 (v 0), .int .u64 (v 1), .int .u64 (v 2), .int .u64 (v 3)], .bool true]) (by simp [results, Try.results19, go_sem, d0, d1, d2, d3]) rfl ?_
    exact ⟨.inl ⟨HL.out, rfl⟩, HB.out⟩
  · obtain ⟨hb, ht0⟩ := HA.out _ rfl w1 hb0
    clear HA hb0
    have ht := ht0
    obtain ⟨c0, c1, c2, c3, f0, f1, f2, f3⟩ := cells4 ht
    obtain ⟨d0, d1, d2, d3, _⟩ := cells4 (set4_box ht 0 0 0 0)
    have HL := Lib.hid hall
    have HB := Lib.hid (set4_below (T := w.heap.size + 1 + 1) (a := 0) (b := 0) (c := 0) (d := 0) hb (by omega))
    have HD := Lib.hid (And.intro d0 (And.intro d1 (And.intro d2 d3)))
    clear ht ht0 hall d0 d1 d2 d3 hb
    unfold vec
    go_wp2
    obtain ⟨d0, d1, d2, d3⟩ := HD.out
    unfold set4 at d0 d1 d2 d3
    refine bodyPost_ret (v := .tuple #[.agg #[.int .u64 0, .int .u64 0, .int .u64 0, .int .u64 0], .bool false]) (by simp [results, Try.results19, go_sem, d0, d1, d2, d3]) rfl ?_
    exact ⟨.inr ⟨HL.out, rfl⟩, HB.out⟩
end Go.Proofs.Ytbefnophkaepmaa.Vec

/- What the small functions that vec's Times, Fits, Order and Holds hand in do, each at one amount. -/
namespace Go.Proofs.Ytbefnophkaepmaa.Vec
open Go.RowKit



/-- Which of two numbers is less. -/
def cmp (x y : Int) : Int := if x < y then -1 else if y < x then 1 else 0
set_option maxRecDepth 100000 in
set_option maxHeartbeats 1000000 in
theorem isnan (x : Int) (w : World) : Calls Try.prog 49 #[.int .u64 x] w fun e w' => e = .returned (.bool false) ∧ w = w' := by
  go_enter Try.func49, Try.ntmps49
  go_wp2
  go_ret
  exact ⟨by simp, rfl⟩
set_option maxRecDepth 100000 in
set_option maxHeartbeats 1000000 in
theorem compare (x y : Int) (w : World) : Calls Try.prog 37 #[.int .u64 x, .int .u64 y] w fun e w' => e = .returned (.int .i64 (cmp x y)) ∧ w = w' := by
  obtain ⟨r, hr⟩ : ∃ r, r = cmp x y := ⟨_, rfl⟩
  rw [← hr]
  have HR := Lib.hid hr
  clear hr
  by_cases h1 : x < y
  · obtain rfl : r = -1 := by rw [HR.out]; unfold cmp; rw [if_pos h1]
    go_enter Try.func37, Try.ntmps37
    go_wp2_with (go_at_call 49; (with_reducible refine (isnan _ _).mono ?_); rintro e w' ⟨rfl, rfl⟩)
    go_ret
    exact ⟨rfl, rfl⟩
  · by_cases h2 : y < x
    · obtain rfl : r = 1 := by rw [HR.out]; unfold cmp; rw [if_neg h1, if_pos h2]
      go_enter Try.func37, Try.ntmps37
      go_wp2_with (go_at_call 49; (with_reducible refine (isnan _ _).mono ?_); rintro e w' ⟨rfl, rfl⟩)
      go_ret
      exact ⟨rfl, rfl⟩
    · obtain rfl : r = 0 := by rw [HR.out]; unfold cmp; rw [if_neg h1, if_neg h2]
      go_enter Try.func37, Try.ntmps37
      go_wp2_with (go_at_call 49; (with_reducible refine (isnan _ _).mono ?_); rintro e w' ⟨rfl, rfl⟩)
      go_ret
      exact ⟨rfl, rfl⟩

set_option maxRecDepth 100000 in
set_option maxHeartbeats 1000000 in
theorem order1 (B T k : Nat) (hk : k < 4) (x y : Int) (wr : World) (hb : wr.cell? ⟨B, k, none⟩ = some (.int .u64 y)) (u : Value) (ht : wr.heap[T]? = some (.cells #[u] 3)) :
    Calls Try.prog 36 #[.int .i64 k, .int .u64 x, .pointer (some ⟨B, 0, none⟩), .pointer (some ⟨T, 0, none⟩)] wr fun e w' => e = .returned (.bool (cmp x y == 0)) ∧ w' = wr.setCell ⟨T, 0, none⟩ (.int .i64 (cmp x y)) := by
  have hk' : (k : Int) < 4 := by omega
  have hk0 : (0 : Int) ≤ (k : Int) := by omega
  have c := cell_at (i := 0) ht rfl
  have fz := frozen_at (i := 0) ht
  have HC := Lib.hid (compare x y)
  obtain ⟨r, hr⟩ : ∃ r, r = cmp x y := ⟨_, rfl⟩
  rw [← hr] at HC ⊢
  have c' := cell_at (i := 0) (heap_setCell_same wr T 0 #[u] 3 (.int .i64 r) ht) rfl
  clear hr ht
  go_enter Try.func36, Try.ntmps36
  go_wp2_with fail
  refine (HC.out _).mono ?_
  rintro e w' ⟨rfl, rfl⟩
  go_wp2
  go_ret
  exact ⟨rfl, rfl⟩

/-- The less of a count and what one amount holds. -/
def least (c q : Int) : Int := if q < c then q else c
theorem min_least (c q : Int) : min c q = least c q := by unfold least; rw [Int.min_def]; split <;> split <;> omega
set_option maxRecDepth 100000 in
set_option maxHeartbeats 1000000 in
theorem holds1_none (C A k : Nat) (wr : World) :
    Calls Try.prog 38 #[.int .i64 k, .int .u64 0, .pointer (some ⟨C, 0, none⟩), .pointer (some ⟨A, 0, none⟩)] wr fun e w' => e = .returned (.bool true) ∧ wr = w' := by
  go_enter Try.func38, Try.ntmps38
  go_wp2
  go_ret
  exact ⟨rfl, rfl⟩

set_option maxRecDepth 100000 in
set_option maxHeartbeats 1000000 in
theorem holds1_some (C A k : Nat) (hk : k < 4) (x y c : Int) (hy : 0 < y) (hx : 0 ≤ x) (hx' : x ≤ 18446744073709551615) (wr : World) (ha : wr.cell? ⟨A, k, none⟩ = some (.int .u64 x)) (ht : wr.heap[C]? = some (.cells #[.int .u64 c] 24)) :
    Calls Try.prog 38 #[.int .i64 k, .int .u64 y, .pointer (some ⟨C, 0, none⟩), .pointer (some ⟨A, 0, none⟩)] wr fun e w' => e = .returned (.bool true) ∧ w' = (wr.setCell ⟨C, 0, none⟩ (.int .u64 (least c (x / y)))).drew := by
  have hk' : (k : Int) < 4 := by omega
  have hk0 : (0 : Int) ≤ (k : Int) := by omega
  have cc := cell_at (i := 0) ht rfl
  have fz := frozen_at (i := 0) ht
  clear ht
  go_enter Try.func38, Try.ntmps38
  go_wp2
  go_region
  go_wp2
  all_goals
    go_ret
    first
      | exact ⟨rfl, by rw [least, if_pos (by assumption)]⟩
      | exact ⟨rfl, by rw [least, if_neg (by omega)]⟩
      | exact ⟨rfl, by rw [min_least]⟩
end Go.Proofs.Ytbefnophkaepmaa.Vec

/- What vec's Times, Fits, Order and Holds answer, for every amounts; of memory that was there nothing turns. -/
namespace Go.Proofs.Ytbefnophkaepmaa.Vec
open Go.RowKit

/-- What Times has laid. -/
def Timed (w0 : World) (H : Nat) (n : Int) (w : World) : Prop :=
  Below H w0 w ∧ H + 3 ≤ w.heap.size ∧ w.heap[H + 1]? = some (.cells #[.int .u64 n] 24) ∧ w.heap[H + 2]? = some (box 0 0 0 0)
theorem Timed.later {w0 : World} {H : Nat} {n : Int} {a b : World} (hab : Below (H + 3) a b) (h : Timed w0 H n a) : Timed w0 H n b :=
  ⟨h.1.trans (hab.mono (by omega)), Nat.le_trans h.2.1 hab.size, (hab.block _ (by omega)).trans h.2.2.1, (hab.block _ (by omega)).trans h.2.2.2⟩


/-- Does each amount fit? -/
def fitsB (x y : Nat → Int) : Bool := decide (x 0 ≤ y 0 ∧ x 1 ≤ y 1 ∧ x 2 ≤ y 2 ∧ x 3 ≤ y 3)
theorem four_all {p : Nat → Prop} : (∀ i, i < 4 → p i) ↔ p 0 ∧ p 1 ∧ p 2 ∧ p 3 :=
  ⟨fun h => ⟨h 0 (by omega), h 1 (by omega), h 2 (by omega), h 3 (by omega)⟩, fun h i hi => by
    have : i = 0 ∨ i = 1 ∨ i = 2 ∨ i = 3 := by omega
    rcases this with rfl | rfl | rfl | rfl
    · exact h.1
    · exact h.2.1
    · exact h.2.2.1
    · exact h.2.2.2⟩
theorem fits_true {x y : Nat → Int} : fitsB x y = true ↔ ∀ i, i < 4 → x i ≤ y i := by unfold fitsB; rw [decide_eq_true_iff, four_all (p := fun i => x i ≤ y i)]
theorem fits_false {x y : Nat → Int} : fitsB x y = false ↔ ¬ ∀ i, i < 4 → x i ≤ y i := by rw [← fits_true]; simp
def FitsLaid (w0 : World) (H : Nat) (x y : Nat → Int) (k : Nat) (w : World) : Prop :=
  Below H w0 w ∧ w.heap[H + 1]? = some (box (y 0) (y 1) (y 2) (y 3)) ∧ ∀ i, i < k → x i ≤ y i
def FitsNot (w0 : World) (H : Nat) (x y : Nat → Int) (w : World) : Prop := Below H w0 w ∧ ¬ ∀ i, i < 4 → x i ≤ y i


/-- Which of two amounts has less of the first kind in which they differ. -/
def ordV (x y : Nat → Int) : Int := if cmp (x 0) (y 0) ≠ 0 then cmp (x 0) (y 0) else if cmp (x 1) (y 1) ≠ 0 then cmp (x 1) (y 1) else if cmp (x 2) (y 2) ≠ 0 then cmp (x 2) (y 2) else cmp (x 3) (y 3)
theorem ordV_of {x y : Nat → Int} {k : Nat} (hk : k < 4) (h : ∀ i, i < k → cmp (x i) (y i) = 0) (hne : cmp (x k) (y k) ≠ 0) : ordV x y = cmp (x k) (y k) := by
  have : k = 0 ∨ k = 1 ∨ k = 2 ∨ k = 3 := by omega
  unfold ordV
  rcases this with rfl | rfl | rfl | rfl
  · rw [if_pos hne]
  · rw [if_neg (by simp [h 0]), if_pos hne]
  · rw [if_neg (by simp [h 0]), if_neg (by simp [h 1]), if_pos hne]
  · rw [if_neg (by simp [h 0]), if_neg (by simp [h 1]), if_neg (by simp [h 2])]
theorem ordV_zero {x y : Nat → Int} (h : ∀ i, i < 4 → cmp (x i) (y i) = 0) : ordV x y = 0 := by
  unfold ordV
  simp [h 0, h 1, h 2, h 3]
def OrderLaid (w0 : World) (H : Nat) (x y : Nat → Int) (k : Nat) (w : World) : Prop :=
  Below H w0 w ∧ w.heap[H + 1]? = some (box (y 0) (y 1) (y 2) (y 3)) ∧ w.heap[H + 2]? = some (.cells #[.int .i64 0] 3) ∧ ∀ i, i < k → cmp (x i) (y i) = 0
def OrderTold (w0 : World) (H : Nat) (x y : Nat → Int) (w : World) : Prop := Below H w0 w ∧ w.heap[H + 2]? = some (.cells #[.int .i64 (ordV x y)] 3)
theorem order_step {w0 : World} {H : Nat} {x y : Nat → Int} (k : Nat) (hk : k < 4) (wr : World) (h : OrderLaid w0 H x y k wr) :
    Calls Try.prog 36 (#[.int .i64 k, .int .u64 (x k)] ++ #[.pointer (some ⟨H + 1, 0, none⟩), .pointer (some ⟨H + 2, 0, none⟩)]) wr (Step (OrderLaid w0 H x y (k + 1)) (OrderTold w0 H x y)) := by
  obtain ⟨hb, ht, hc, hall⟩ := h
  refine (order1 (H + 1) (H + 2) k hk (x k) (y k) wr (cell4 ht k hk) _ hc).mono ?_
  rintro e w' ⟨rfl, rfl⟩
  have hb' := hb.setCell (p := ⟨H + 2, 0, none⟩) (by simp) (.int .i64 (cmp (x k) (y k)))
  have hc' := heap_setCell_same _ (H + 2) 0 _ _ (.int .i64 (cmp (x k) (y k))) hc
  by_cases hx : cmp (x k) (y k) = 0
  · rw [hx] at hb' hc' ⊢
    refine .inl ⟨rfl, hb', (heap_setCell_other _ _ _ _ (by simp)).trans ht, hc', fun i hi => ?_⟩
    by_cases e : i = k
    · rw [e]; exact hx
    · exact hall i (by omega)
  · refine .inr ⟨by simp [hx], hb', ?_⟩
    rw [ordV_of hk hall hx]
    exact hc'

set_option maxRecDepth 100000 in
set_option maxHeartbeats 1000000 in
theorem order_any (x y : Nat → Int) (w : World) :
    Calls Try.prog 20 #[vec (x 0) (x 1) (x 2) (x 3), vec (y 0) (y 1) (y 2) (y 3)] w fun e w' => e = .returned (.int .i64 (ordV x y)) ∧ Below w.heap.size w w' := by
  have hcl : ∀ (args : Array Value) (w : World), (callFunc 36 args).run Try.prog w = .ok (.enter 36 args) w := fun _ _ => by kernel_rfl
  have hat : OrderLaid w w.heap.size x y 0 ((((w.alloc (box (x 0) (x 1) (x 2) (x 3))).alloc (box (y 0) (y 1) (y 2) (y 3))).alloc (.cells #[.int .i64 0] 3)).alloc (box (x 0) (x 1) (x 2) (x 3))) := by
    refine ⟨(((((Below.refl _ _).alloc (Nat.le_refl _) _).alloc (by simp) _).alloc (by simp; omega) _).alloc (by simp; omega) _), ?_, ?_, fun i hi => absurd hi (by omega)⟩
    · rw [heap_alloc_old _ _ (by simp), heap_alloc_old _ _ (by simp)]
      exact heap_alloc2_new _ _ _
    · rw [heap_alloc_old _ _ (by simp)]
      exact heap_alloc_new ((w.alloc (box (x 0) (x 1) (x 2) (x 3))).alloc (box (y 0) (y 1) (y 2) (y 3))) (.cells #[.int .i64 0] 3) ▸ (by simp)
  have HE := Lib.hid (each_any (x 0) (x 1) (x 2) (x 3) 36 #[.pointer (some ⟨w.heap.size + 1, 0, none⟩), .pointer (some ⟨w.heap.size + 1 + 1, 0, none⟩)] (OrderLaid w w.heap.size x y) (OrderTold w w.heap.size x y) _ hcl hat
    (order_step 0 (by omega)) (order_step 1 (by omega)) (order_step 2 (by omega)) (order_step 3 (by omega)))
  clear hcl hat
  obtain ⟨r, hr⟩ : ∃ r, r = ordV x y := ⟨_, rfl⟩
  rw [← hr]
  have HR := Lib.hid hr
  clear hr
  unfold vec
  unfold vec box at HE
  go_enter Try.func20, Try.ntmps20
  go_wp2_with fail
  refine HE.out.mono ?_
  clear HE
  intro e w1 he
  have hw : (e = .returned (.bool true) ∨ e = .returned (.bool false)) ∧ OrderTold w w.heap.size x y w1 := by
    rcases he with ⟨rfl, hb, _, hc, hall⟩ | ⟨rfl, h⟩
    · exact ⟨.inl rfl, hb, by rw [ordV_zero hall]; exact hc⟩
    · exact ⟨.inr rfl, h⟩
  clear he
  obtain ⟨he, hb, hc⟩ := hw
  rw [← HR.out] at hc
  have hc0 : w1.heap[w.heap.size + 1 + 1]? = some (.cells #[.int .i64 r] 3) := hc
  have c := cell_at (i := 0) hc0 rfl
  have f := frozen_at (i := 0) hc0
  have d := cell_at (i := 0) (heap_setCell_same _ _ 0 _ _ (.int .i64 r) hc0) rfl
  have HD := Lib.hid d
  have HB := Lib.hid (hb.setCell (p := ⟨w.heap.size + 1 + 1, 0, none⟩) (by simp; omega) (.int .i64 r))
  clear d hb hc hc0
  rcases he with rfl | rfl
  · go_wp2
    refine bodyPost_ret (v := .int .i64 r) (by simp [results, Try.results20, go_sem, HD.out]) rfl ⟨rfl, HB.out⟩
  · go_wp2
    refine bodyPost_ret (v := .int .i64 r) (by simp [results, Try.results20, go_sem, HD.out]) rfl ⟨rfl, HB.out⟩

/-- How many are held, as far as k kinds say. -/
def cnt (x y : Nat → Int) (m : Int) : Nat → Int
  | 0 => m
  | k + 1 => if 0 < y k then least (cnt x y m k) (x k / y k) else cnt x y m k
theorem cnt_pos {x y : Nat → Int} {m : Int} {k : Nat} (h : 0 < y k) : cnt x y m (k + 1) = least (cnt x y m k) (x k / y k) := by rw [cnt, if_pos h]
theorem cnt_neg {x y : Nat → Int} {m : Int} {k : Nat} (h : ¬ 0 < y k) : cnt x y m (k + 1) = cnt x y m k := by rw [cnt, if_neg h]
def HoldLaid (w0 : World) (H : Nat) (x y : Nat → Int) (m : Int) (k : Nat) (w : World) : Prop :=
  Below H w0 w ∧ w.heap[H]? = some (box (x 0) (x 1) (x 2) (x 3)) ∧ w.heap[H + 2]? = some (.cells #[.int .u64 (cnt x y m k)] 24)
def InRange (x : Nat → Int) : Prop := ∀ i, i < 4 → 0 ≤ x i ∧ x i ≤ 18446744073709551615
theorem hold_step {w0 : World} {H : Nat} {x y : Nat → Int} {m : Int} (hx : InRange x) (hy : InRange y) (k : Nat) (hk : k < 4) (wr : World) (h : HoldLaid w0 H x y m k wr) :
    Calls Try.prog 38 (#[.int .i64 k, .int .u64 (y k)] ++ #[.pointer (some ⟨H + 2, 0, none⟩), .pointer (some ⟨H, 0, none⟩)]) wr (Step (HoldLaid w0 H x y m (k + 1)) (fun _ => False)) := by
  obtain ⟨hb, ht, hc⟩ := h
  have hy0 := hy k hk
  have hx0 := hx k hk
  by_cases h0 : 0 < y k
  · refine (holds1_some (H + 2) H k hk (x k) (y k) _ h0 hx0.1 hx0.2 wr (cell4 ht k hk) hc).mono ?_
    rintro e w' ⟨rfl, rfl⟩
    refine .inl ⟨rfl, (hb.setCell (by simp) _).drew, ?_, ?_⟩
    · exact (heap_setCell_other wr ⟨H + 2, 0, none⟩ H _ (by simp)).trans ht
    · have := heap_setCell_same wr (H + 2) 0 _ _ (.int .u64 (least (cnt x y m k) (x k / y k))) hc
      rw [cnt_pos h0]
      exact this
  · have h1 : y k = 0 := by omega
    rw [h1]
    refine (holds1_none (H + 2) H k wr).mono ?_
    rintro e w' ⟨rfl, rfl⟩
    refine .inl ⟨rfl, hb, ht, ?_⟩
    rw [cnt_neg h0]
    exact hc

theorem cnt_bounds {x y : Nat → Int} {m : Int} (hx : InRange x) (hm : 0 ≤ m) : ∀ k, k ≤ 4 → 0 ≤ cnt x y m k ∧ cnt x y m k ≤ m
  | 0, _ => ⟨hm, Int.le_refl _⟩
  | k + 1, hk => by
    have ih := cnt_bounds (y := y) hx hm k (by omega)
    by_cases h0 : 0 < y k
    · rw [cnt_pos h0]
      have : 0 ≤ x k / y k := Int.ediv_nonneg (hx k (by omega)).1 (by omega)
      unfold least
      split <;> omega
    · rw [cnt_neg h0]
      exact ih

set_option maxRecDepth 100000 in
set_option maxHeartbeats 1000000 in
theorem holds_any (x y : Nat → Int) (hx : InRange x) (hy : InRange y) (n : Int) (m : Int) (hn : n ≤ 9223372036854775807) (hn' : -9223372036854775808 ≤ n) (hm : m = if 0 < n then n else 0) (w : World) :
    Calls Try.prog 21 #[vec (x 0) (x 1) (x 2) (x 3), vec (y 0) (y 1) (y 2) (y 3), .int .i64 n] w fun e w' => e = .returned (.int .i64 (cnt x y m 4)) ∧ Below w.heap.size w w' := by
  have hcl : ∀ (args : Array Value) (w : World), (callFunc 38 args).run Try.prog w = .ok (.enter 38 args) w := fun _ _ => by kernel_rfl
  have hm0 : 0 ≤ m ∧ m ≤ 9223372036854775807 := by rw [hm]; split <;> omega
  have hb4 := cnt_bounds (y := y) hx hm0.1 4 (by omega)
  have hat : HoldLaid w w.heap.size x y m 0 ((((w.alloc (box (x 0) (x 1) (x 2) (x 3))).alloc (box (y 0) (y 1) (y 2) (y 3))).alloc (.cells #[.int .u64 m] 24)).alloc (box (y 0) (y 1) (y 2) (y 3))) := by
    refine ⟨(((((Below.refl _ _).alloc (Nat.le_refl _) _).alloc (by simp) _).alloc (by simp; omega) _).alloc (by simp; omega) _), ?_, ?_⟩
    · rw [heap_alloc_old _ _ (by simp; omega), heap_alloc_old _ _ (by simp; omega), heap_alloc_old _ _ (by simp)]
      exact heap_alloc_new _ _
    · rw [heap_alloc_old _ _ (by simp)]
      exact heap_alloc_new ((w.alloc (box (x 0) (x 1) (x 2) (x 3))).alloc (box (y 0) (y 1) (y 2) (y 3))) (.cells #[.int .u64 m] 24) ▸ (by simp)
  have HE := Lib.hid (each_any (y 0) (y 1) (y 2) (y 3) 38 #[.pointer (some ⟨w.heap.size + 1 + 1, 0, none⟩), .pointer (some ⟨w.heap.size, 0, none⟩)] (HoldLaid w w.heap.size x y m) (fun _ => False) _ hcl hat
    (hold_step hx hy 0 (by omega)) (hold_step hx hy 1 (by omega)) (hold_step hx hy 2 (by omega)) (hold_step hx hy 3 (by omega)))
  clear hcl hat hx hy
  obtain ⟨r, hr⟩ : ∃ r, r = cnt x y m 4 := ⟨_, rfl⟩
  rw [← hr] at hb4
  rw [← hr]
  have HR := Lib.hid hr
  have HM := Lib.hid hm
  clear hr hm
  unfold vec
  unfold vec box at HE
  by_cases h0 : 0 < n
  · obtain rfl : m = n := by rw [HM.out, if_pos h0]
    clear HM
    go_enter Try.func21, Try.ntmps21
    go_wp2_with fail
    refine HE.out.mono ?_
    clear HE
    rintro e w1 (⟨rfl, hb, _, hc⟩ | ⟨rfl, hf⟩)
    · rw [← HR.out] at hc
      have hc0 : w1.heap[w.heap.size + 1 + 1]? = some (.cells #[.int .u64 r] 24) := hc
      have c := cell_at (i := 0) hc0 rfl
      clear hc hc0
      go_wp2
      go_ret
      exact ⟨rfl, hb⟩
    · exact hf.elim
  · obtain rfl : m = 0 := by rw [HM.out, if_neg h0]
    by_cases h1 : n = 0
    · subst h1
      clear HM
      go_enter Try.func21, Try.ntmps21
      go_wp2_with fail
      refine HE.out.mono ?_
      clear HE
      rintro e w1 (⟨rfl, hb, _, hc⟩ | ⟨rfl, hf⟩)
      · rw [← HR.out] at hc
        have hc0 : w1.heap[w.heap.size + 1 + 1]? = some (.cells #[.int .u64 r] 24) := hc
        have c := cell_at (i := 0) hc0 rfl
        clear hc hc0
        go_wp2
        go_ret
        exact ⟨rfl, hb⟩
      · exact hf.elim
    · have h2 : n < 0 := by omega
      clear h1
      clear HM
      go_enter Try.func21, Try.ntmps21
      go_wp2_with fail
      refine HE.out.mono ?_
      clear HE
      rintro e w1 (⟨rfl, hb, _, hc⟩ | ⟨rfl, hf⟩)
      · rw [← HR.out] at hc
        have hc0 : w1.heap[w.heap.size + 1 + 1]? = some (.cells #[.int .u64 r] 24) := hc
        have c := cell_at (i := 0) hc0 rfl
        clear hc hc0
        go_wp2
        go_ret
        exact ⟨rfl, hb⟩
      · exact hf.elim
end Go.Proofs.Ytbefnophkaepmaa.Vec

/- A region that draws its order, whose calls may make memory but turn nothing that was there: one walk, in the order of the text, serves every order. Of no program. -/
namespace Go.Proofs.Ytbefnophkaepmaa.Quiet
open Go.RowKit

/-- A world behind this one, in which all that was there is as it was. -/
def Behind (w : World) : Type := { x : World // Below w.heap.size w x }
def Behind.world {w : World} (p : Behind w) : World := p.1
theorem Behind.below {w : World} (p : Behind w) : Below w.heap.size w p.world := p.2
instance (w : World) : Nonempty (Behind w) := ⟨⟨w, Below.refl _ _⟩⟩
theorem Behind.of {w x : World} (h : Below w.heap.size w x) : ∃ p : Behind w, x = p.world := ⟨⟨x, h⟩, rfl⟩

theorem region {P : Program} {id : Nat} {Q : Exit → Act → World → Prop} {a : Act} {w : World} {l : List Oper} (hm : P.follows .mixedOrders = true) (hB : Region.lexB .any l.toArray = true)
    (h : wpQuiet P l.toArray (fun w' => ∃ p : Behind w, w' = p.world) (fun a' => ∀ w', (∃ p : Behind w, w' = p.world) → Q .normal a' w') l a) : (Code.region id l.toArray true).wp P Q a w :=
  wp_region_quiet (C := fun w' => ∃ p : Behind w, w' = p.world) hm hB (Behind.of ((Below.refl _ _).drew)) (by simpa using h)

/-- A callee's contract, met in such a world. -/
theorem calls {P : Program} {f : FuncId} {args : Array Value} {w : World} {p : Behind w} {v : Value}
    (h : Calls P f args p.world fun e w' => e = .returned v ∧ Below p.world.heap.size p.world w') : Calls P f args p.world fun e w'' => e = .returned v ∧ ∃ q : Behind w, w'' = q.world :=
  h.mono fun _ _ ⟨he, hb⟩ => ⟨he, Behind.of (p.below.trans (hb.mono p.below.size))⟩
/-- A cell that was there. -/
theorem cell {w : World} {a : Addr} {v : Value} (hb : a.block < w.heap.size) (h : w.cell? a = some v) (p : Behind w) : p.world.cell? a = some v := by
  rw [p.below.cell hb]; exact h
end Go.Proofs.Ytbefnophkaepmaa.Quiet

/- What the document's own Order and Holds answer of any amounts (chapter 3); of memory that was there nothing turns. -/
namespace Go.Proofs.Ytbefnophkaepmaa.Vec
open Go.RowKit

/-- Four amounts of the document's in memory. -/
def boxR (x : Nat → Int) : Obj := .cells #[.int .u64 (x 0), .int .u64 (x 1), .int .u64 (x 2), .int .u64 (x 3)] 36
theorem drewN_below {B : Nat} {a w : World} (h : Below B a w) : ∀ n, Below B a (w.drewN n)
  | 0 => h
  | n + 1 => (drewN_below h n).drew
theorem cellR {w : World} {b : Nat} {x : Nat → Int} (h : w.heap[b]? = some (boxR x)) (k : Nat) (hk : k < 4) : w.cell? ⟨b, k, none⟩ = some (.int .u64 (x k)) := by
  unfold boxR at h
  match k with
  | 0 => exact cell_at h rfl
  | 1 => exact cell_at h rfl
  | 2 => exact cell_at h rfl
  | 3 => exact cell_at h rfl
  | _ + 4 => omega
theorem two_boxes (w : World) (x y : Nat → Int) {w' : World} (h : Below ((w.alloc (boxR x)).alloc (boxR y)).heap.size ((w.alloc (boxR x)).alloc (boxR y)) w') :
    w'.heap[w.heap.size]? = some (boxR x) ∧ w'.heap[w.heap.size + 1]? = some (boxR y) := by
  constructor
  · rw [h.block _ (by simp; omega), heap_alloc_old _ _ (by simp)]; exact heap_alloc_new _ _
  · rw [h.block _ (by simp)]
    have := heap_alloc_new (w.alloc (boxR x)) (boxR y)
    simpa using this

set_option maxHeartbeats 2000000 in
set_option maxRecDepth 100000 in
theorem refOrder_any (x y : Nat → Int) (w : World) :
    Calls Try.prog 41 #[vec (x 0) (x 1) (x 2) (x 3), vec (y 0) (y 1) (y 2) (y 3)] w fun e w' => e = .returned (.int .i64 (ordV x y)) ∧ Below w.heap.size w w' := by
  obtain ⟨W, hW⟩ : ∃ W, W = (w.alloc (boxR x)).alloc (boxR y) := ⟨_, rfl⟩
  have hwW : Below w.heap.size w W := by rw [hW]; exact ((Below.refl _ _).alloc (Nat.le_refl _) _).alloc (by simp) _
  have HB := Lib.hid (fun w' (h : Below W.heap.size W w') => two_boxes w x y (w' := w') (by rw [hW] at h; exact h))
  have HW := Lib.hid hW
  unfold vec
  unfold boxR at HW
  clear hW
  go_enter Try.func41, Try.ntmps41
  go_upto_region 1 with fail
  rw [← HW.out]
  clear HW
  go_wp2
  go_loopw [5] (fun t wr => ∃ k : Nat, k ≤ 4 ∧ t = .int .i64 k ∧ (∀ i, i < k → cmp (x i) (y i) = 0) ∧ Below W.heap.size W wr) (fun t _ => 4 - (intOf t).toNat)
  case atStart => exact ⟨0, Nat.zero_le _, rfl, fun i hi => absurd hi (by omega), Below.refl _ _⟩
  case round =>
    obtain ⟨k, hk, rfl, hall, hb⟩ := hrel
    have HA := Lib.hid hall
    have hbw := hwW.trans (hb.mono hwW.size)
    clear hall
    by_cases hlt : k < 4
    · have hltz : (k : Int) < 4 := by omega
      have hk0 : (0 : Int) ≤ (k : Int) := by omega
      obtain ⟨b0, b1⟩ := HB.out _ hb
      have c0 := cellR b0 k hlt
      have c1 := cellR b1 k hlt
      have HX := Lib.hid (rfl : cmp (x k) (y k) = cmp (x k) (y k))
      obtain ⟨p, hp⟩ : ∃ p, x k = p := ⟨_, rfl⟩
      obtain ⟨q, hq⟩ : ∃ q, y k = q := ⟨_, rfl⟩
      rw [hp] at c0
      rw [hq] at c1
      have HC : Hid (cmp (x k) (y k) = cmp p q) := Lib.hid (by rw [hp, hq])
      clear b0 b1 HX hp hq
      by_cases h1 : p < q
      · have h1b : decide (p < q) = true := decide_eq_true h1
        have HE : Hid (ordV x y = -1) := Lib.hid (by
          have e : cmp p q = -1 := by unfold cmp; rw [if_pos h1]
          rw [ordV_of hlt HA.out (by rw [HC.out, e]; decide), HC.out, e])
        go_wp2
        go_quiet (fail)
        go_wp2
        go_ret
        exact ⟨by rw [HE.out]; rfl, drewN_below hbw _⟩
      · have h1b : decide (p < q) = false := decide_eq_false h1
        by_cases h2 : q < p
        · have h2b : decide (q < p) = true := decide_eq_true h2
          have HE : Hid (ordV x y = 1) := Lib.hid (by
            have e : cmp p q = 1 := by unfold cmp; rw [if_neg h1, if_pos h2]
            rw [ordV_of hlt HA.out (by rw [HC.out, e]; decide), HC.out, e])
          go_wp2
          go_quiet (fail)
          go_wp2
          go_quiet (fail)
          go_wp2
          go_ret
          exact ⟨by rw [HE.out]; rfl, drewN_below (drewN_below hbw _) _⟩
        · have h2b : decide (q < p) = false := decide_eq_false h2
          have HN : Hid (∀ i, i < k + 1 → cmp (x i) (y i) = 0) := Lib.hid (fun i hi => by
            by_cases e : i = k
            · subst e; rw [HC.out]; unfold cmp; rw [if_neg h1, if_neg h2]
            · exact HA.out i (by omega))
          go_wp2
          go_quiet (fail)
          go_wp2
          go_quiet (fail)
          go_wp2
          go_roundw
          case rel => exact ⟨k + 1, by omega, by go_num, HN.out, drewN_below hb _⟩
          case measure => simp [intOf]; omega
    · have hltz : ¬ (k : Int) < 4 := by omega
      have HE : Hid (ordV x y = 0) := Lib.hid (ordV_zero (fun i hi => HA.out i (by omega)))
      go_wp2
      go_ret
      exact ⟨by rw [HE.out]; rfl, hbw⟩

theorem max_int (x y z : Int) (h : (x < y ∧ z = y) ∨ (y ≤ x ∧ z = x)) (w : World) : (Builtin.max_ #[3, 3] 3 #[.int .i64 x, .int .i64 y]).run Try.prog w = .ok (.int .i64 z) w := by
  rcases h with ⟨h, rfl⟩ | ⟨h, rfl⟩
  · go_simp
  · go_simp
    intro k
    omega
theorem min_u64 (x y z : Int) (h : (x ≤ y ∧ z = x) ∨ (y ≤ x ∧ z = y)) (w : World) : (Builtin.min_ #[24, 24] 24 #[.int .u64 x, .int .u64 y]).run Try.prog w = .ok (.int .u64 z) w := by
  rcases h with ⟨h, rfl⟩ | ⟨h, rfl⟩
  · go_simp
    intro k
    omega
  · go_simp
    intro k
    omega
theorem wrap_u64 {n : Int} (h0 : 0 ≤ n) (h1 : n ≤ 18446744073709551615) : IntKind.u64.wrap n = n := by
  unfold IntKind.wrap; simp [IntKind.signed, IntKind.bits]; omega

set_option maxHeartbeats 2000000 in
set_option maxRecDepth 100000 in
theorem refHolds_any (x y : Nat → Int) (hx : InRange x) (hy : InRange y) (n m : Int) (hn : n ≤ 9223372036854775807) (_hn' : -9223372036854775808 ≤ n) (hm : m = if 0 < n then n else 0) (w : World) :
    Calls Try.prog 31 #[vec (x 0) (x 1) (x 2) (x 3), vec (y 0) (y 1) (y 2) (y 3), .int .i64 n] w fun e w' => e = .returned (.int .i64 (cnt x y m 4)) ∧ Below w.heap.size w w' := by
  obtain ⟨W, hW⟩ : ∃ W, W = (w.alloc (boxR x)).alloc (boxR y) := ⟨_, rfl⟩
  have hwW : Below w.heap.size w W := by rw [hW]; exact ((Below.refl _ _).alloc (Nat.le_refl _) _).alloc (by simp) _
  have HB := Lib.hid (fun w' (h : Below W.heap.size W w') => two_boxes w x y (w' := w') (by rw [hW] at h; exact h))
  have hm0 : 0 ≤ m ∧ m ≤ 9223372036854775807 := by rw [hm]; split <;> omega
  have hmax := max_int n 0 m (by rw [hm]; split <;> omega)
  have hwm := wrap_u64 hm0.1 (by omega)
  have HR := Lib.hid (And.intro hx hy)
  have HCB := Lib.hid (fun k hk => cnt_bounds (y := y) hx hm0.1 k hk)
  have HW := Lib.hid hW
  have HM := Lib.hid hm0
  unfold vec
  unfold boxR at HW
  clear hW hx hy hm hm0 hn
  go_enter Try.func31, Try.ntmps31
  go_upto_region 1 with fail
  rw [← HW.out]
  clear HW
  go_wp2
  clear hmax hwm
  go_loopw [7, 8] (fun c t wr => ∃ k : Nat, k ≤ 4 ∧ t = .int .i64 k ∧ c = .int .u64 (cnt x y m k) ∧ Below W.heap.size W wr) (fun _ t _ => 4 - (intOf t).toNat)
  case atStart => exact ⟨0, Nat.zero_le _, rfl, rfl, Below.refl _ _⟩
  case round =>
    obtain ⟨k, hk, rfl, rfl, hb⟩ := hrel
    have hbw := hwW.trans (hb.mono hwW.size)
    by_cases hlt : k < 4
    · have hltz : (k : Int) < 4 := by omega
      have hk0 : (0 : Int) ≤ (k : Int) := by omega
      obtain ⟨b0, b1⟩ := HB.out _ hb
      have c0 := cellR b0 k hlt
      have c1 := cellR b1 k hlt
      have hxk := HR.out.1 k hlt
      have hyk := HR.out.2 k hlt
      have hcb := HCB.out k (by omega)
      by_cases h1 : 0 < y k
      · have HN := Lib.hid (cnt_pos (x := x) (m := m) h1)
        obtain ⟨p, hp⟩ : ∃ p, x k = p := ⟨_, rfl⟩
        obtain ⟨q, hq⟩ : ∃ q, y k = q := ⟨_, rfl⟩
        obtain ⟨c, hc⟩ : ∃ c, cnt x y m k = c := ⟨_, rfl⟩
        rw [hp] at c0 hxk HN
        rw [hq] at c1 hyk HN h1
        rw [hc] at HN hcb ⊢
        have h1b : decide (0 < q) = true := decide_eq_true h1
        have hq0 : ¬ q = 0 := by omega
        have hq0b : (q == 0) = false := by rw [beq_eq_false_iff_ne]; omega
        obtain ⟨r, hr⟩ : ∃ r, p / q = r := ⟨_, rfl⟩
        have hrt : Int.tdiv p q = r := by rw [← hr]; exact Int.tdiv_eq_ediv_of_nonneg hxk.1
        have hr0 : 0 ≤ r := by rw [← hr]; exact Int.ediv_nonneg hxk.1 (by omega)
        have hr1 : r ≤ 18446744073709551615 := by rw [← hr]; exact Int.le_trans (Int.ediv_le_self _ hxk.1) hxk.2
        have hwr := wrap_u64 hr0 hr1
        rw [hr] at HN
        obtain ⟨z, hz⟩ : ∃ z, least c r = z := ⟨_, rfl⟩
        have hmin := min_u64 c r z (by rw [← hz]; unfold least; split <;> omega)
        rw [hz] at HN
        clear b0 b1 hp hq hc hz
        go_wp2
        go_quiet (fail)
        go_wp2
        go_roundw
        case rel => exact ⟨k + 1, by omega, by go_num, by rw [HN.out], drewN_below hb _⟩
        case measure => simp [intOf]; omega
      · have HN := Lib.hid (cnt_neg (x := x) (m := m) h1)
        obtain ⟨q, hq⟩ : ∃ q, y k = q := ⟨_, rfl⟩
        rw [hq] at c1 hyk h1
        obtain ⟨c, hc⟩ : ∃ c, cnt x y m k = c := ⟨_, rfl⟩
        rw [hc] at HN hcb ⊢
        have h1b : decide (0 < q) = false := decide_eq_false h1
        clear b0 b1 hq hc c0
        go_wp2
        go_roundw
        case rel => exact ⟨k + 1, by omega, by go_num, by rw [HN.out], hb⟩
        case measure => simp [intOf]; omega
    · obtain rfl : k = 4 := by omega
      have hcb := HCB.out 4 (by omega)
      have hm1 := HM.out
      obtain ⟨c, hc⟩ : ∃ c, cnt x y m 4 = c := ⟨_, rfl⟩
      rw [hc] at hcb ⊢
      have hwi : IntKind.i64.wrap c = c := by rw [IntKind.wrap_i64]; omega
      have HC := Lib.hid hc
      clear hc
      go_wp2
      go_ret
      exact ⟨by rw [HC.out]; rfl, hbw⟩
end Go.Proofs.Ytbefnophkaepmaa.Vec

/- vec's calls, each by two plain contracts, yes and no; and the tests of two amounts. -/
namespace Go.Proofs.Ytbefnophkaepmaa.Vec
open Go.RowKit

theorem equal_vec' (a0 a1 a2 a3 b0 b1 b2 b3 : Int) (w : World) :
    (Op.equalIn 10000 26 (.agg #[.int .u64 a0, .int .u64 a1, .int .u64 a2, .int .u64 a3]) (.agg #[.int .u64 b0, .int .u64 b1, .int .u64 b2, .int .u64 b3])).run Try.prog w = .ok (same a0 a1 a2 a3 b0 b1 b2 b3) w := equal_vec 9998 a0 a1 a2 a3 b0 b1 b2 b3 w
theorem guard_vec : Try.prog.eqGuardType Try.prog.depth 26 = false := by kernel_rfl

/-- Are they the same? -/
def sameV (a b : Nat → Int) : Bool := same (a 0) (a 1) (a 2) (a 3) (b 0) (b 1) (b 2) (b 3)
theorem sameV_true {a b : Nat → Int} : sameV a b = true ↔ ∀ i, i < 4 → a i = b i := by
  unfold sameV
  rw [same_iff, four_all (p := fun i => a i = b i)]
theorem sameV_false {a b : Nat → Int} : sameV a b = false ↔ ¬ ∀ i, i < 4 → a i = b i := by rw [← sameV_true]; simp

/-- Nothing. -/
def zeroV : Nat → Int := fun _ => 0


/-- The sum, as wire tells it. -/
def addT (x y : Int) : Int := if x + y ≤ 18446744073709551615 then x + y else 0
def addB (x y : Int) : Bool := decide (x + y ≤ 18446744073709551615)
def subT (x y : Int) : Int := if y ≤ x then x - y else 0
def subB (x y : Int) : Bool := decide (y ≤ x)
theorem pure_sub {x y : Int} (hx : 0 ≤ x ∧ x ≤ 18446744073709551615) (hy : 0 ≤ y ∧ y ≤ 18446744073709551615) : Pure2 34 x y (subT x y) (subB x y) := by
  unfold subT subB
  by_cases h : y ≤ x
  · rw [if_pos h, decide_eq_true h]; exact fun w => Num.sub_yes x y hx.1 hy.1 hx.2 h w
  · rw [if_neg h, decide_eq_false h]; exact fun w => Num.sub_no x y (by omega) w
def mulT (x y : Int) : Int := if x * y ≤ 18446744073709551615 then x * y else 0
def mulB (x y : Int) : Bool := decide (x * y ≤ 18446744073709551615)

theorem sub_yes (a b c : Nat → Int) (ha : InRange a) (hb : InRange b) (hle : ∀ i, i < 4 → b i ≤ a i) (h : ∀ i, i < 4 → c i = a i - b i) (w : World) :
    Calls Try.prog 19 #[vec (a 0) (a 1) (a 2) (a 3), vec (b 0) (b 1) (b 2) (b 3)] w fun e w' => e = .returned (.tuple #[vec (c 0) (c 1) (c 2) (c 3), .bool true]) ∧ Below w.heap.size w w' := by
  refine (sub_four a b c (fun _ => true) (fun k hk => by rw [h k hk]; exact fun w => Num.sub_yes _ _ (ha k hk).1 (hb k hk).1 (ha k hk).2 (hle k hk) w) w).mono ?_
  rintro e w' ⟨(⟨_, he⟩ | ⟨⟨i, _, hf⟩, _⟩), hb⟩
  · exact ⟨he, hb⟩
  · simp at hf
theorem sub_no (a b : Nat → Int) (ha : InRange a) (hb : InRange b) (h : ¬ ∀ i, i < 4 → b i ≤ a i) (w : World) :
    Calls Try.prog 19 #[vec (a 0) (a 1) (a 2) (a 3), vec (b 0) (b 1) (b 2) (b 3)] w fun e w' => e = .returned (.tuple #[vec 0 0 0 0, .bool false]) ∧ Below w.heap.size w w' := by
  refine (sub_four a b (fun i => subT (a i) (b i)) (fun i => subB (a i) (b i)) (fun k hk => pure_sub (ha k hk) (hb k hk)) w).mono ?_
  rintro e w' ⟨(⟨hall, he⟩ | ⟨_, he⟩), hb⟩
  · exact absurd (fun i hi => of_decide_eq_true (hall i hi)) h
  · exact ⟨he, hb⟩
end Go.Proofs.Ytbefnophkaepmaa.Vec

/- A whole struct by value, out of and into a block of memory, whatever its cells are: the steps of a walk, in regions that keep their order and in quiet ones; of no function of the program. -/
namespace Go.Proofs.Ytbefnophkaepmaa.Whole
open Go.RowKit

/-- Is it laid out over cells? -/
def wide (d : TypeDesc) : Bool := match d with | .struct _ | .array _ _ => true | _ => false

theorem run_load {P : Program} (w : World) (b : Nat) (t : TypeId) (c : Array Value) (d : TypeDesc) {t' : TypeId} {fr : Nat × Nat} (hb : w.heap[b]? = some (.cells c t' fr)) (hu : P.underlying t = some d) (hd : wide d = true) (hi : (P.info? t).map (·.size) = some c.size) :
    (Instr.loadAt t (.pointer (some ⟨b, 0, none⟩))).run P w = .ok (.agg c) w := by
  simp only [Instr.loadAt, Instr.sureAddr, Sem.run_bind, Sem.run_pure, Result.andThen]
  exact run_loadVar_row _ _ t' t c fr d hb hu (by cases d <;> simp_all [wide]) hi
theorem run_store {P : Program} (w : World) (b : Nat) (t : TypeId) (c c' : Array Value) (hb : w.heap[b]? = some (.cells c t)) (hi : (P.info? t).map (·.size) = some c'.size) (ho : c.size = c'.size) (h1 : c'.all (·.oneCell') = true) :
    (Instr.storeAt t (.pointer (some ⟨b, 0, none⟩)) (.agg c')).run P w = .ok () (w.setRow b c') := by
  simp only [Instr.storeAt, Instr.sureAddr, Sem.run_bind, Sem.run_pure, Result.andThen]
  exact run_storeVar_row _ _ t t c c' hb hi ho h1
theorem load {P : Program} (w : World) {ops : Array Oper} {rest : List Oper} {o : Oper} {a : Act} {Q : Exit → Act → World → Prop} (hgd : o.guard = none) (p : Operand) (t : TypeId) (ho : o.op = .load t p)
    (b : Nat) (c : Array Value) (d : TypeDesc) (hp : a.eval p = .pointer (some ⟨b, 0, none⟩)) {t' : TypeId} {fr : Nat × Nat} (hb : w.heap[b]? = some (.cells c t' fr)) (hu : P.underlying t = some d) (hd : wide d = true) (hi : (P.info? t).map (·.size) = some c.size)
    (h : wpList P ops Q rest (a.put o.dst (.agg c)) w) : wpList P ops Q (o :: rest) a w := by
  refine wpList_plain hgd fun K hK => ?_
  have hr := run_load w b t c d hb hu hd hi
  unfold Oper.wp execOp
  simp only [ho, Sem.run_bind, Sem.run_pure, Result.andThen_ok, hp, hr]
  exact hK _ _ h
theorem store {P : Program} (w : World) {ops : Array Oper} {rest : List Oper} {o : Oper} {a : Act} {Q : Exit → Act → World → Prop} (hgd : o.guard = none) (hd : o.dst = none) (p x : Operand) (t : TypeId) (ho : o.op = .store t p x)
    (b : Nat) (c c' : Array Value) (hp : a.eval p = .pointer (some ⟨b, 0, none⟩)) (hx : a.eval x = .agg c') (hb : w.heap[b]? = some (.cells c t)) (hi : (P.info? t).map (·.size) = some c'.size) (hs : c.size = c'.size) (h1 : c'.all (·.oneCell') = true)
    (h : wpList P ops Q rest a (w.setRow b c')) : wpList P ops Q (o :: rest) a w := by
  refine wpList_plain hgd fun K hK => ?_
  have hr := run_store w b t c c' hb hi hs h1
  have he : a.put o.dst undef = a := by rw [hd]; rfl
  unfold Oper.wp execOp
  simp only [ho, Sem.run_bind, Sem.run_pure, Result.andThen_ok, hp, hx, hr]
  refine hK _ _ ?_
  rw [he]
  exact h
/-- The same of a guarded one that is wanted. -/
theorem loadW {P : Program} (w : World) {ops : Array Oper} {rest : List Oper} {o : Oper} {a : Act} {Q : Exit → Act → World → Prop} (hgd : Region.wanted o (yielded ops a.tmps) = true) (p : Operand) (t : TypeId) (ho : o.op = .load t p)
    (b : Nat) (c : Array Value) (d : TypeDesc) (hp : a.eval p = .pointer (some ⟨b, 0, none⟩)) {t' : TypeId} {fr : Nat × Nat} (hb : w.heap[b]? = some (.cells c t' fr)) (hu : P.underlying t = some d) (hd : wide d = true) (hi : (P.info? t).map (·.size) = some c.size)
    (h : wpList P ops Q rest (a.put o.dst (.agg c)) w) : wpList P ops Q (o :: rest) a w := by
  refine wpList_step fun K hK => ?_
  rw [if_pos hgd]
  have hr := run_load w b t c d hb hu hd hi
  unfold Oper.wp execOp
  simp only [ho, Sem.run_bind, Sem.run_pure, Result.andThen_ok, hp, hr]
  exact hK _ _ h
theorem row_below {B g : Nat} {w0 w : World} (h : Below B w0 w) (hg : B ≤ g) (c : Array Value) : Below B w0 (w.setRow g c) :=
  ⟨h.os, h.tape, h.output, by simpa using h.size, fun k hk => (setRow_other w g k c (by omega)).trans (h.block k hk)⟩
/-- What is handed back out of one block. -/
theorem result_one {fn : Func} {p : Tmp} {ty : TypeId} (h : fn.results = #[.cell p ty]) (tmps : Array Value) (P : Program) (w : World) {b : Nat} {c : Array Value} {d : TypeDesc} (hp : tmps.getD p undef = .pointer (some ⟨b, 0, none⟩))
    {t' : TypeId} (hb : w.heap[b]? = some (.cells c t')) (hu : P.underlying ty = some d) (hd : wide d = true) (hi : (P.info? ty).map (·.size) = some c.size) : (results fn tmps).run P w = .ok (.agg c) w := by
  have hr := run_loadVar_row (P := P) w b t' ty c (0, 0) d hb hu (by cases d <;> simp_all [wide]) hi
  have hp' : tmps[p]?.getD undef = .pointer (some ⟨b, 0, none⟩) := by rw [← hp, Array.getD_eq_getD_getElem?]
  simp only [results, h]
  simp [hp', asAddr, hr]
/-- Out of a block, and a slot. -/
theorem result_two {fn : Func} {p q : Tmp} {ty : TypeId} (h : fn.results = #[.cell p ty, .tmp q]) (tmps : Array Value) (P : Program) (w : World) {b : Nat} {c : Array Value} {d : TypeDesc} (hp : tmps.getD p undef = .pointer (some ⟨b, 0, none⟩))
    {t' : TypeId} (hb : w.heap[b]? = some (.cells c t')) (hu : P.underlying ty = some d) (hd : wide d = true) (hi : (P.info? ty).map (·.size) = some c.size) {v : Value} (hv : tmps.getD q undef = v) : (results fn tmps).run P w = .ok (.tuple #[.agg c, v]) w := by
  have hr := run_loadVar_row (P := P) w b t' ty c (0, 0) d hb hu (by cases d <;> simp_all [wide]) hi
  have hp' : tmps[p]?.getD undef = .pointer (some ⟨b, 0, none⟩) := by rw [← hp, Array.getD_eq_getD_getElem?]
  have hv' : tmps[q]?.getD undef = v := by rw [← hv, Array.getD_eq_getD_getElem?]
  simp only [results, h]
  simp [hp', hv', asAddr, hr]

/-! ### In a quiet region -/
theorem list_of_quiet {P : Program} {ops : Array Oper} {C : World → Prop} {Qa : Act → Prop} {Q : Exit → Act → World → Prop} (hQ : ∀ a w, C w → Qa a → Q .normal a w) : ∀ (l : List Oper) (a : Act) (w : World), C w → wpQuiet P ops C Qa l a → wpList P ops Q l a w
  | [], a, w, hw, h => hQ a w hw h
  | o :: l, a, w, hw, h => by
    unfold wpQuiet at h
    unfold wpList
    by_cases hg : Region.wanted o (yielded ops a.tmps) = true
    · rw [if_pos hg] at h ⊢
      exact .inl (Oper.wp_of_quiet hw (fun a' w' hw' => list_of_quiet hQ l a' w' hw') h)
    · rw [if_neg hg] at h ⊢
      exact list_of_quiet hQ l _ w hw h
/-- A region that keeps its order, whose calls may make memory but turn nothing that was there. -/
theorem regionL {P : Program} {id : Nat} {Q : Exit → Act → World → Prop} {a : Act} {w : World} {l : List Oper}
    (h : wpQuiet P l.toArray (fun w' => ∃ p : Quiet.Behind w, w' = p.world) (fun a' => ∀ w', (∃ p : Quiet.Behind w, w' = p.world) → Q .normal a' w') l a) : (Code.region id l.toArray false).wp P Q a w :=
  wp_region_lit (list_of_quiet (fun _ _ hw h => h _ hw) l a w (Quiet.Behind.of (Below.refl _ _)) h)
/-- An operation whose run is known in every world of the class. -/
theorem quiet_run {P : Program} {C : World → Prop} {o : Oper} {a : Act} {K : Act → Prop} (v : Value) (h : ∀ w, C w → (execOp a.eval o).run P w = .ok (.value v) w) (hk : K (a.put o.dst v)) : o.quiet P a C K :=
  ⟨v, fun w hw => by unfold Oper.quietAt; rw [h w hw]; exact ⟨rfl, rfl⟩, hk⟩
theorem quiet_load {P : Program} {wr : World} {o : Oper} {a : Act} {K : Act → Prop} (p : Operand) (t : TypeId) (ho : o.op = .load t p) (b : Nat) (c : Array Value) (d : TypeDesc) (hp : a.eval p = .pointer (some ⟨b, 0, none⟩))
    {t' : TypeId} (hb : wr.heap[b]? = some (.cells c t')) (hu : P.underlying t = some d) (hd : wide d = true) (hi : (P.info? t).map (·.size) = some c.size) (hk : K (a.put o.dst (.agg c))) :
    o.quiet P a (fun w' => ∃ q : Quiet.Behind wr, w' = q.world) K := by
  refine quiet_run (.agg c) ?_ hk
  rintro w ⟨q, rfl⟩
  have hb' : q.world.heap[b]? = some (.cells c t') := (q.below.block b (Array.getElem?_eq_some_iff.1 hb).1).trans hb
  have hr := run_load q.world b t c d hb' hu hd hi
  unfold execOp
  simp only [ho, Sem.run_bind, Sem.run_pure, Result.andThen_ok, hp, hr]
theorem run_guard {P : Program} (b : BinOp) (t : TypeId) (x y : Operand) (c c' : Array Value) (hg : P.eqGuardType P.depth t = false) (w : World) : (eqGuard b t x y (.agg c) (.agg c')).run P w = .ok () w := by
  unfold eqGuard
  cases b <;> simp [hg]
/-- Two values held against one another. -/
theorem quiet_bin {P : Program} {wr : World} {o : Oper} {a : Act} {K : Act → Prop} (b : BinOp) (x y : Operand) (t t' : TypeId) (ho : o.op = .binOp b t x y t') (v : Value) (c c' : Array Value) (hx : a.eval x = .agg c) (hy : a.eval y = .agg c') (hg : P.eqGuardType P.depth t = false)
    (h : ∀ w, (binOp b t (.agg c) (.agg c')).run P w = .ok v w) (hk : K (a.put o.dst v)) : o.quiet P a (fun w' => ∃ q : Quiet.Behind wr, w' = q.world) K := by
  refine quiet_run v ?_ hk
  rintro w ⟨q, rfl⟩
  have h1 := run_guard b t x y c c' hg q.world
  have h2 := h q.world
  unfold execOp
  simp only [ho, Sem.run_bind, Sem.run_pure, Result.andThen_ok, hx, hy, h1, h2]
/-- The same in a region that keeps its order. -/
theorem bin {P : Program} (w : World) {ops : Array Oper} {rest : List Oper} {o : Oper} {a : Act} {Q : Exit → Act → World → Prop} (hgd : Region.wanted o (yielded ops a.tmps) = true) (b : BinOp) (x y : Operand) (t t' : TypeId) (ho : o.op = .binOp b t x y t') (v : Value) (c c' : Array Value)
    (hx : a.eval x = .agg c) (hy : a.eval y = .agg c') (hg : P.eqGuardType P.depth t = false) (h : ∀ w, (binOp b t (.agg c) (.agg c')).run P w = .ok v w) (hk : wpList P ops Q rest (a.put o.dst v) w) : wpList P ops Q (o :: rest) a w := by
  refine wpList_step fun K hK => ?_
  rw [if_pos hgd]
  have h1 := run_guard b t x y c c' hg w
  have h2 := h w
  unfold Oper.wp execOp
  simp only [ho, Sem.run_bind, Sem.run_pure, Result.andThen_ok, hx, hy, h1, h2]
  exact hK _ _ hk
/-! ### In a region that draws, operation by operation -/
theorem held_load {P : Program} {w : World} {o : Oper} {a : Act} (p : Operand) (t : TypeId) (ho : o.op = .load t p) (b : Nat) (c : Array Value) (d : TypeDesc) (hp : a.eval p = .pointer (some ⟨b, 0, none⟩))
    {t' : TypeId} (hb : w.heap[b]? = some (.cells c t')) (hu : P.underlying t = some d) (hd : wide d = true) (hi : (P.info? t).map (·.size) = some c.size) : (execOp a.eval o).run P w = .ok (.value (.agg c)) w := by
  have hr := run_load w b t c d hb hu hd hi
  unfold execOp
  simp only [ho, Sem.run_bind, Sem.run_pure, Result.andThen_ok, hp, hr]
theorem step_store {P : Program} (w : World) {ops : Array Oper} {o : Oper} {a : Act} {K : Act → World → Prop} {Q : Exit → Act → World → Prop} {E : Prop} (hgd : o.guard = none) (p x : Operand) (t : TypeId) (ho : o.op = .store t p x)
    (b : Nat) (c c' : Array Value) (hp : a.eval p = .pointer (some ⟨b, 0, none⟩)) (hx : a.eval x = .agg c') (hb : w.heap[b]? = some (.cells c t)) (hi : (P.info? t).map (·.size) = some c'.size) (hs : c.size = c'.size) (h1 : c'.all (·.oneCell') = true)
    (h : K (a.put o.dst undef) (w.setRow b c')) : if Region.wanted o (yielded ops a.tmps) = true then Oper.wp P o a w K Q else E := by
  have hw : Region.wanted o (yielded ops a.tmps) = true := by simp [Region.wanted, hgd]
  rw [if_pos hw]
  have hr := run_store w b t c c' hb hi hs h1
  unfold Oper.wp execOp
  simp only [ho, Sem.run_bind, Sem.run_pure, Result.andThen_ok, hp, hx, hr]
  exact h
end Go.Proofs.Ytbefnophkaepmaa.Whole

/- What the document's own Sub answers of any amounts (chapter 3); of memory that was there nothing turns. -/
namespace Go.Proofs.Ytbefnophkaepmaa.Vec
open Go.RowKit

set_option maxRecDepth 100000 in
theorem refSub1 (a b : Int) (ha : 0 ≤ a) (hb : 0 ≤ b) (ha' : a ≤ 18446744073709551615) (w : World) :
    Calls Try.prog 42 #[.int .u64 a, .int .u64 b] w fun e w' => e = .returned (.tuple #[.int .u64 (subT a b), .bool (subB a b)]) ∧ Below w.heap.size w w' := by
  unfold subT subB
  by_cases h : b ≤ a
  · rw [if_pos h, decide_eq_true h]
    have hw : IntKind.u64.wrap (a - b) = a - b := wrap_u64 (by omega) (by omega)
    go_enter Try.func42, Try.ntmps42
    go_wp2
    go_ret2
    exact ⟨rfl, Below.refl _ _⟩
  · rw [if_neg h, decide_eq_false h]
    go_enter Try.func42, Try.ntmps42
    go_wp2
    go_ret2
    exact ⟨rfl, Below.refl _ _⟩

/-- The first so many of these, then nought. -/
def till (k : Nat) (v : Nat → Int) (i : Nat) : Int := if i < k then v i else 0
theorem till_zero (v : Nat → Int) : boxR (till 0 v) = boxR (fun _ => 0) := by unfold boxR till; simp
theorem till_four (v : Nat → Int) : boxR (till 4 v) = boxR v := by unfold boxR till; simp
theorem till_set {w : World} {b k : Nat} {v : Nat → Int} (h : w.heap[b]? = some (boxR (till k v))) (hk : k < 4) : (w.setCell ⟨b, k, none⟩ (.int .u64 (v k))).heap[b]? = some (boxR (till (k + 1) v)) := by
  unfold boxR at *
  have hs := heap_setCell_same w b k _ _ (.int .u64 (v k)) h
  rw [hs]
  match k with
  | 0 => simp [till]
  | 1 => simp [till]
  | 2 => simp [till]
  | 3 => simp [till]
  | _ + 4 => omega
theorem four_boxes (w : World) (x y : Nat → Int) :
    Below w.heap.size w ((((w.alloc (boxR x)).alloc (boxR y)).alloc (boxR fun _ => 0)).alloc (boxR fun _ => 0)) ∧
    ((((w.alloc (boxR x)).alloc (boxR y)).alloc (boxR fun _ => 0)).alloc (boxR fun _ => 0)).heap.size = w.heap.size + 4 ∧
    ((((w.alloc (boxR x)).alloc (boxR y)).alloc (boxR fun _ => 0)).alloc (boxR fun _ => 0)).heap[w.heap.size]? = some (boxR x) ∧
    ((((w.alloc (boxR x)).alloc (boxR y)).alloc (boxR fun _ => 0)).alloc (boxR fun _ => 0)).heap[w.heap.size + 1]? = some (boxR y) ∧
    ((((w.alloc (boxR x)).alloc (boxR y)).alloc (boxR fun _ => 0)).alloc (boxR fun _ => 0)).heap[w.heap.size + 2]? = some (boxR fun _ => 0) ∧
    ((((w.alloc (boxR x)).alloc (boxR y)).alloc (boxR fun _ => 0)).alloc (boxR fun _ => 0)).heap[w.heap.size + 3]? = some (boxR fun _ => 0) := by
  have s1 : (w.alloc (boxR x)).heap.size = w.heap.size + 1 := World.size_alloc ..
  have s2 : ((w.alloc (boxR x)).alloc (boxR y)).heap.size = w.heap.size + 2 := by rw [World.size_alloc, s1]
  have s3 : (((w.alloc (boxR x)).alloc (boxR y)).alloc (boxR fun _ => 0)).heap.size = w.heap.size + 3 := by rw [World.size_alloc, s2]
  refine ⟨((((Below.refl _ _).alloc (Nat.le_refl _) _).alloc (by omega) _).alloc (by omega) _).alloc (by omega) _, by rw [World.size_alloc, s3], ?_, ?_, ?_, ?_⟩
  · rw [heap_alloc_old _ _ (by omega), heap_alloc_old _ _ (by omega), heap_alloc_old _ _ (by omega)]; exact heap_alloc_new _ _
  · rw [heap_alloc_old _ _ (by omega), heap_alloc_old _ _ (by omega)]
    have := heap_alloc_new (w.alloc (boxR x)) (boxR y); rw [s1] at this; exact this
  · rw [heap_alloc_old _ _ (by omega)]
    have := heap_alloc_new ((w.alloc (boxR x)).alloc (boxR y)) (boxR fun _ => 0); rw [s2] at this; exact this
  · have := heap_alloc_new (((w.alloc (boxR x)).alloc (boxR y)).alloc (boxR fun _ => 0)) (boxR fun _ => 0); rw [s3] at this; exact this
theorem cells4R {w : World} {T : Nat} {x : Nat → Int} (h : w.heap[T]? = some (boxR x)) :
    w.cell? ⟨T, 0, none⟩ = some (.int .u64 (x 0)) ∧ w.cell? ⟨T, 1, none⟩ = some (.int .u64 (x 1)) ∧ w.cell? ⟨T, 2, none⟩ = some (.int .u64 (x 2)) ∧ w.cell? ⟨T, 3, none⟩ = some (.int .u64 (x 3)) ∧
    w.frozen? ⟨T, 0, none⟩ = false ∧ w.frozen? ⟨T, 1, none⟩ = false ∧ w.frozen? ⟨T, 2, none⟩ = false ∧ w.frozen? ⟨T, 3, none⟩ = false :=
  ⟨cell_at h rfl, cell_at h rfl, cell_at h rfl, cell_at h rfl, frozen_at h, frozen_at h, frozen_at h, frozen_at h⟩
theorem set4_boxR {w : World} {T : Nat} {t : Nat → Int} (h : w.heap[T]? = some (boxR t)) (a b c d : Int) :
    (set4 T a b c d w).cell? ⟨T, 0, none⟩ = some (.int .u64 a) ∧ (set4 T a b c d w).cell? ⟨T, 1, none⟩ = some (.int .u64 b) ∧ (set4 T a b c d w).cell? ⟨T, 2, none⟩ = some (.int .u64 c) ∧ (set4 T a b c d w).cell? ⟨T, 3, none⟩ = some (.int .u64 d) := by
  unfold boxR at h
  unfold set4
  have h1 := heap_setCell_same w T 0 _ _ (.int .u64 a) h
  have h2 := heap_setCell_same _ T 1 _ _ (.int .u64 b) h1
  have h3 := heap_setCell_same _ T 2 _ _ (.int .u64 c) h2
  have h4 := heap_setCell_same _ T 3 _ _ (.int .u64 d) h3
  exact ⟨cell_at h4 rfl, cell_at h4 rfl, cell_at h4 rfl, cell_at h4 rfl⟩

/-- What lies in memory in a round. -/
structure SubAt (w0 : World) (H : Nat) (x y v : Nat → Int) (k : Nat) (w : World) : Prop where
  below : Below H w0 w
  big : H + 4 ≤ w.heap.size
  bx : w.heap[H]? = some (boxR x)
  by_ : w.heap[H + 1]? = some (boxR y)
  res : w.heap[H + 2]? = some (boxR fun _ => 0)
  sum : w.heap[H + 3]? = some (boxR (till k v))
theorem SubAt.more {w0 w w' : World} {H k : Nat} {x y v : Nat → Int} (h : SubAt w0 H x y v k w) (hb : Below w.heap.size w w') : SubAt w0 H x y v k w' := by
  have := h.big
  exact ⟨h.below.trans (hb.mono (by omega)), by have := hb.size; omega, (hb.block _ (by omega)).trans h.bx, (hb.block _ (by omega)).trans h.by_, (hb.block _ (by omega)).trans h.res, (hb.block _ (by omega)).trans h.sum⟩
theorem SubAt.set {w0 w : World} {H k : Nat} {x y v : Nat → Int} (h : SubAt w0 H x y v k w) (hk : k < 4) : SubAt w0 H x y v (k + 1) (w.setCell ⟨H + 3, k, none⟩ (.int .u64 (v k))) :=
  ⟨h.below.setCell (p := ⟨H + 3, k, none⟩) (by simp) _, by simpa using h.big, (heap_setCell_other _ _ _ _ (by simp)).trans h.bx, (heap_setCell_other _ _ _ _ (by simp)).trans h.by_, (heap_setCell_other _ _ _ _ (by simp)).trans h.res, till_set h.sum hk⟩

set_option maxHeartbeats 4000000 in
set_option maxRecDepth 100000 in
theorem refSub_any (x y : Nat → Int) (hx : InRange x) (hy : InRange y) (w : World) :
    Calls Try.prog 28 #[vec (x 0) (x 1) (x 2) (x 3), vec (y 0) (y 1) (y 2) (y 3)] w fun e w' =>
      (((∀ i, i < 4 → y i ≤ x i) ∧ e = .returned (.tuple #[vec (x 0 - y 0) (x 1 - y 1) (x 2 - y 2) (x 3 - y 3), .bool true])) ∨ ((¬ ∀ i, i < 4 → y i ≤ x i) ∧ e = .returned (.tuple #[vec 0 0 0 0, .bool false]))) ∧ Below w.heap.size w w' := by
  obtain ⟨f1, f2, f3, f4, f5, f6⟩ := four_boxes w x y
  obtain ⟨W, hW⟩ : ∃ W, W = (((w.alloc (boxR x)).alloc (boxR y)).alloc (boxR fun _ => 0)).alloc (boxR fun _ => 0) := ⟨_, rfl⟩
  rw [← hW] at f1 f2 f3 f4 f5 f6
  have HW := Lib.hid hW
  obtain ⟨v, hv⟩ : ∃ v : Nat → Int, v = fun i => x i - y i := ⟨_, rfl⟩
  have HV := Lib.hid hv
  have HA : Hid (SubAt w w.heap.size x y v 0 W) := Lib.hid ⟨f1, by omega, f3, f4, f5, by rw [till_zero]; exact f6⟩
  have HR := Lib.hid (And.intro hx hy)
  clear hW f1 f2 f3 f4 f5 f6 hx hy hv
  unfold vec
  unfold boxR at HW
  go_enter Try.func28, Try.ntmps28
  go_upto_region 2 with fail
  rw [← HW.out]
  clear HW
  go_wp2
  go_loopw [7] (fun t wr => ∃ k : Nat, k ≤ 4 ∧ t = .int .i64 k ∧ (∀ i, i < k → y i ≤ x i) ∧ SubAt w w.heap.size x y v k wr) (fun t _ => 4 - (intOf t).toNat)
  case atStart => exact ⟨0, Nat.zero_le _, rfl, fun i hi => absurd hi (by omega), HA.out⟩
  case round =>
    obtain ⟨k, hk, rfl, hall, hs⟩ := hrel
    have HS := Lib.hid hs
    have HL := Lib.hid hall
    clear hall hs
    by_cases hlt : k < 4
    · have hltz : (k : Int) < 4 := by omega
      have hk0 : (0 : Int) ≤ (k : Int) := by omega
      have hbig := HS.out.big
      have c0 : ∀ q : Quiet.Behind wr, q.world.cell? ⟨w.heap.size, k, none⟩ = some (.int .u64 (x k)) := Quiet.cell (by show w.heap.size < wr.heap.size; omega) (cellR HS.out.bx k hlt)
      have c1 : ∀ q : Quiet.Behind wr, q.world.cell? ⟨w.heap.size + 1, k, none⟩ = some (.int .u64 (y k)) := Quiet.cell (by show w.heap.size + 1 < wr.heap.size; omega) (cellR HS.out.by_ k hlt)
      have hxk := HR.out.1 k hlt
      have hyk := HR.out.2 k hlt
      have hvk : v k = x k - y k := by rw [HV.out]
      obtain ⟨p, hp⟩ : ∃ p, x k = p := ⟨_, rfl⟩
      obtain ⟨q, hq⟩ : ∃ q, y k = q := ⟨_, rfl⟩
      rw [hp] at c0 hxk hvk
      rw [hq] at c1 hyk hvk
      have HC := Lib.hid (fun w => refSub1 p q hxk.1 hyk.1 hxk.2 w)
      by_cases h1 : q ≤ p
      · have e1 : subT p q = p - q := if_pos h1
        have e2 : subB p q = true := decide_eq_true h1
        have HN : Hid (∀ i, i < k + 1 → y i ≤ x i) := Lib.hid (fun i hi => by
          by_cases e : i = k
          · subst e; rw [hp, hq]; exact h1
          · exact HL.out i (by omega))
        rw [e1, e2, ← hvk] at HC
        obtain ⟨d, hd⟩ : ∃ d, v k = d := ⟨_, rfl⟩
        rw [hd] at HC
        have HD := Lib.hid hd
        clear e1 e2 hp hq hvk h1 hxk hyk hd HL
        go_wp2_with fail
        refine Quiet.region (by kernel_rfl) (by kernel_rfl) ?_
        repeat (go_big_quiet_step (first | (go_at_call 42; (with_reducible exact Quiet.calls (HC.out _)))))
        refine wpQuiet_nil ?_
        rintro _ ⟨pq, rfl⟩
        have hq := HS.out.more pq.below
        generalize pq.world = ws at hq ⊢
        have s0 := cellR hq.sum k hlt
        have z0 : ws.frozen? ⟨w.heap.size + 1 + 1 + 1, k, none⟩ = false := frozen_at hq.sum
        have HQ := Lib.hid (hq.set hlt)
        rw [HD.out] at HQ
        clear c0 c1 hq
        go_wp2
        go_roundw
        case rel => exact ⟨k + 1, by omega, by go_num, HN.out, HQ.out⟩
        case measure => simp [intOf]; omega
      · have e1 : subT p q = 0 := if_neg h1
        have e2 : subB p q = false := decide_eq_false h1
        have HN : Hid (¬ ∀ i, i < 4 → y i ≤ x i) := Lib.hid (fun h => h1 (by rw [← hp, ← hq]; exact h k hlt))
        rw [e1, e2] at HC
        clear e1 e2 hp hq hvk h1 hxk hyk HL
        go_wp2_with fail
        refine Quiet.region (by kernel_rfl) (by kernel_rfl) ?_
        repeat (go_big_quiet_step (first | (go_at_call 42; (with_reducible exact Quiet.calls (HC.out _)))))
        refine wpQuiet_nil ?_
        rintro _ ⟨pq, rfl⟩
        have hq := HS.out.more pq.below
        generalize pq.world = ws at hq ⊢
        obtain ⟨r0, r1, r2, r3, z0, z1, z2, z3⟩ := cells4R hq.res
        have HD := Lib.hid (set4_boxR hq.res 0 0 0 0)
        have HB := Lib.hid (set4_below (T := w.heap.size + 2) (a := 0) (b := 0) (c := 0) (d := 0) hq.below (by omega))
        clear c0 c1 hq
        go_wp2
        obtain ⟨d0, d1, d2, d3⟩ := HD.out
        unfold set4 at d0 d1 d2 d3
        refine bodyPost_ret (v := .tuple #[.agg #[.int .u64 0, .int .u64 0, .int .u64 0, .int .u64 0], .bool false]) (by simp [results, Try.results28, go_sem, d0, d1, d2, d3]) rfl ?_
        exact ⟨.inr ⟨HN.out, rfl⟩, HB.out⟩
    · obtain rfl : k = 4 := by omega
      have hq := HS.out
      have hs := hq.sum
      rw [till_four] at hs
      obtain ⟨m0, m1, m2, m3, _⟩ := cells4R hs
      obtain ⟨r0, r1, r2, r3, z0, z1, z2, z3⟩ := cells4R hq.res
      have e0 : v 0 = x 0 - y 0 := by rw [HV.out]
      have e1 : v 1 = x 1 - y 1 := by rw [HV.out]
      have e2 : v 2 = x 2 - y 2 := by rw [HV.out]
      have e3 : v 3 = x 3 - y 3 := by rw [HV.out]
      have HE := Lib.hid (And.intro e0 (And.intro e1 (And.intro e2 e3)))
      have HD := Lib.hid (set4_boxR hq.res (v 0) (v 1) (v 2) (v 3))
      have HB := Lib.hid (set4_below (T := w.heap.size + 2) (a := v 0) (b := v 1) (c := v 2) (d := v 3) hq.below (by omega))
      clear e0 e1 e2 e3 hq hs
      go_wp2
      obtain ⟨d0, d1, d2, d3⟩ := HD.out
      unfold set4 at d0 d1 d2 d3
      refine bodyPost_ret (v := .tuple #[.agg #[.int .u64 (v 0), .int .u64 (v 1), .int .u64 (v 2), .int .u64 (v 3)], .bool true]) (by simp [results, Try.results28, go_sem, d0, d1, d2, d3]) rfl ?_
      refine ⟨.inl ⟨fun i hi => HL.out i hi, ?_⟩, HB.out⟩
      rw [HE.out.1, HE.out.2.1, HE.out.2.2.1, HE.out.2.2.2]
end Go.Proofs.Ytbefnophkaepmaa.Vec
