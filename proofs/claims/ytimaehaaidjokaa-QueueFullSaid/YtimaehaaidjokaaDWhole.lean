/- A whole struct by value, out of and into a block of memory, whatever its cells are: the steps of a walk, in regions that keep their order and in quiet ones; of no function of the program. -/
import Derived.Test.YtimaehaaidjokaaProg
import Derived.Test.YtimaehaaidjokaaQuiet
import Derived.Deep.WholeRow
import Derived.WalkKit
import Derived.Below
namespace Go.Proofs.Ytimaehaaidjokaa.Whole
open Go.RowKit

/-- Is it laid out over cells? -/
def wide (d : TypeDesc) : Bool := match d with | .struct _ | .array _ _ => true | _ => false

theorem run_load {P : Program} (w : World) (b : Nat) (t : TypeId) (c : Array Value) (d : TypeDesc) {t' : TypeId} {fr : Nat × Nat} (hb : w.heap[b]? = some (.cells c t' fr)) (hu : P.underlying t = some d) (hd : wide d = true) (hi : (P.info? t).map (·.size) = some c.size) :
    (Instr.loadAt t (.pointer (some ⟨b, 0, none⟩))).run P w = .ok (.agg c) w := by
  simp only [Instr.loadAt, Instr.sureAddr, Sem.run_bind, Sem.run_pure, Result.andThen]
  exact run_loadVar_row _ _ t' t c fr d hb hu (by cases d <;> simp_all [wide]) hi
theorem run_store {P : Program} (w : World) (b : Nat) (t : TypeId) (c c' : Array Value) (hb : w.heap[b]? = some (.cells c t)) (hi : (P.info? t).map (·.size) = some c'.size) (ho : c.size = c'.size) (h1 : c'.all (·.oneCell') = true) :
    (Instr.storeAt t (.pointer (some ⟨b, 0, none⟩)) (.agg c')).run P w = .ok () (w.setRow b c') := by
  simp only [Instr.storeAt, Instr.sureAddr, Sem.run_bind, Sem.run_pure, Result.andThen]
  exact run_storeVar_row _ _ t t c c' hb hi ho h1
theorem load {P : Program} (w : World) {ops : Array Oper} {rest : List Oper} {o : Oper} {a : Act} {Q : Exit → Act → World → Prop} (hgd : o.guard = none) (p : Operand) (t : TypeId) (ho : o.op = .load t p)
    (b : Nat) (c : Array Value) (d : TypeDesc) (hp : a.eval p = .pointer (some ⟨b, 0, none⟩)) {t' : TypeId} {fr : Nat × Nat} (hb : w.heap[b]? = some (.cells c t' fr)) (hu : P.underlying t = some d) (hd : wide d = true) (hi : (P.info? t).map (·.size) = some c.size)
    (h : wpList P ops Q rest (a.put o.dst (.agg c)) w) : wpList P ops Q (o :: rest) a w := by
  refine wpList_plain hgd fun K hK => ?_
  have hr := run_load w b t c d hb hu hd hi
  unfold Oper.wp execOp
  simp only [ho, Sem.run_bind, Sem.run_pure, Result.andThen_ok, hp, hr]
  exact hK _ _ h
theorem store {P : Program} (w : World) {ops : Array Oper} {rest : List Oper} {o : Oper} {a : Act} {Q : Exit → Act → World → Prop} (hgd : o.guard = none) (hd : o.dst = none) (p x : Operand) (t : TypeId) (ho : o.op = .store t p x)
    (b : Nat) (c c' : Array Value) (hp : a.eval p = .pointer (some ⟨b, 0, none⟩)) (hx : a.eval x = .agg c') (hb : w.heap[b]? = some (.cells c t)) (hi : (P.info? t).map (·.size) = some c'.size) (hs : c.size = c'.size) (h1 : c'.all (·.oneCell') = true)
    (h : wpList P ops Q rest a (w.setRow b c')) : wpList P ops Q (o :: rest) a w := by
  refine wpList_plain hgd fun K hK => ?_
  have hr := run_store w b t c c' hb hi hs h1
  have he : a.put o.dst undef = a := by rw [hd]; rfl
  unfold Oper.wp execOp
  simp only [ho, Sem.run_bind, Sem.run_pure, Result.andThen_ok, hp, hx, hr]
  refine hK _ _ ?_
  rw [he]
  exact h
/-- The same of a guarded one that is wanted. -/
theorem loadW {P : Program} (w : World) {ops : Array Oper} {rest : List Oper} {o : Oper} {a : Act} {Q : Exit → Act → World → Prop} (hgd : Region.wanted o (yielded ops a.tmps) = true) (p : Operand) (t : TypeId) (ho : o.op = .load t p)
    (b : Nat) (c : Array Value) (d : TypeDesc) (hp : a.eval p = .pointer (some ⟨b, 0, none⟩)) {t' : TypeId} {fr : Nat × Nat} (hb : w.heap[b]? = some (.cells c t' fr)) (hu : P.underlying t = some d) (hd : wide d = true) (hi : (P.info? t).map (·.size) = some c.size)
    (h : wpList P ops Q rest (a.put o.dst (.agg c)) w) : wpList P ops Q (o :: rest) a w := by
  refine wpList_step fun K hK => ?_
  rw [if_pos hgd]
  have hr := run_load w b t c d hb hu hd hi
  unfold Oper.wp execOp
  simp only [ho, Sem.run_bind, Sem.run_pure, Result.andThen_ok, hp, hr]
  exact hK _ _ h
theorem row_below {B g : Nat} {w0 w : World} (h : Below B w0 w) (hg : B ≤ g) (c : Array Value) : Below B w0 (w.setRow g c) :=
  ⟨h.os, h.tape, h.output, by simpa using h.size, fun k hk => (setRow_other w g k c (by omega)).trans (h.block k hk)⟩
/-- What is handed back out of one block. -/
theorem result_one {fn : Func} {p : Tmp} {ty : TypeId} (h : fn.results = #[.cell p ty]) (tmps : Array Value) (P : Program) (w : World) {b : Nat} {c : Array Value} {d : TypeDesc} (hp : tmps.getD p undef = .pointer (some ⟨b, 0, none⟩))
    {t' : TypeId} (hb : w.heap[b]? = some (.cells c t')) (hu : P.underlying ty = some d) (hd : wide d = true) (hi : (P.info? ty).map (·.size) = some c.size) : (results fn tmps).run P w = .ok (.agg c) w := by
  have hr := run_loadVar_row (P := P) w b t' ty c (0, 0) d hb hu (by cases d <;> simp_all [wide]) hi
  have hp' : tmps[p]?.getD undef = .pointer (some ⟨b, 0, none⟩) := by rw [← hp, Array.getD_eq_getD_getElem?]
  simp only [results, h]
  simp [hp', asAddr, hr]
/-- Out of a block, and a slot. -/
theorem result_two {fn : Func} {p q : Tmp} {ty : TypeId} (h : fn.results = #[.cell p ty, .tmp q]) (tmps : Array Value) (P : Program) (w : World) {b : Nat} {c : Array Value} {d : TypeDesc} (hp : tmps.getD p undef = .pointer (some ⟨b, 0, none⟩))
    {t' : TypeId} (hb : w.heap[b]? = some (.cells c t')) (hu : P.underlying ty = some d) (hd : wide d = true) (hi : (P.info? ty).map (·.size) = some c.size) {v : Value} (hv : tmps.getD q undef = v) : (results fn tmps).run P w = .ok (.tuple #[.agg c, v]) w := by
  have hr := run_loadVar_row (P := P) w b t' ty c (0, 0) d hb hu (by cases d <;> simp_all [wide]) hi
  have hp' : tmps[p]?.getD undef = .pointer (some ⟨b, 0, none⟩) := by rw [← hp, Array.getD_eq_getD_getElem?]
  have hv' : tmps[q]?.getD undef = v := by rw [← hv, Array.getD_eq_getD_getElem?]
  simp only [results, h]
  simp [hp', hv', asAddr, hr]

/-! ### In a quiet region -/
theorem list_of_quiet {P : Program} {ops : Array Oper} {C : World → Prop} {Qa : Act → Prop} {Q : Exit → Act → World → Prop} (hQ : ∀ a w, C w → Qa a → Q .normal a w) : ∀ (l : List Oper) (a : Act) (w : World), C w → wpQuiet P ops C Qa l a → wpList P ops Q l a w
  | [], a, w, hw, h => hQ a w hw h
  | o :: l, a, w, hw, h => by
    unfold wpQuiet at h
    unfold wpList
    by_cases hg : Region.wanted o (yielded ops a.tmps) = true
    · rw [if_pos hg] at h ⊢
      exact .inl (Oper.wp_of_quiet hw (fun a' w' hw' => list_of_quiet hQ l a' w' hw') h)
    · rw [if_neg hg] at h ⊢
      exact list_of_quiet hQ l _ w hw h
/-- A region that keeps its order, whose calls may make memory but turn nothing that was there. -/
theorem regionL {P : Program} {id : Nat} {Q : Exit → Act → World → Prop} {a : Act} {w : World} {l : List Oper}
    (h : wpQuiet P l.toArray (fun w' => ∃ p : Quiet.Behind w, w' = p.world) (fun a' => ∀ w', (∃ p : Quiet.Behind w, w' = p.world) → Q .normal a' w') l a) : (Code.region id l.toArray false).wp P Q a w :=
  wp_region_lit (list_of_quiet (fun _ _ hw h => h _ hw) l a w (Quiet.Behind.of (Below.refl _ _)) h)
/-- An operation whose run is known in every world of the class. -/
theorem quiet_run {P : Program} {C : World → Prop} {o : Oper} {a : Act} {K : Act → Prop} (v : Value) (h : ∀ w, C w → (execOp a.eval o).run P w = .ok (.value v) w) (hk : K (a.put o.dst v)) : o.quiet P a C K :=
  ⟨v, fun w hw => by unfold Oper.quietAt; rw [h w hw]; exact ⟨rfl, rfl⟩, hk⟩
theorem quiet_load {P : Program} {wr : World} {o : Oper} {a : Act} {K : Act → Prop} (p : Operand) (t : TypeId) (ho : o.op = .load t p) (b : Nat) (c : Array Value) (d : TypeDesc) (hp : a.eval p = .pointer (some ⟨b, 0, none⟩))
    {t' : TypeId} (hb : wr.heap[b]? = some (.cells c t')) (hu : P.underlying t = some d) (hd : wide d = true) (hi : (P.info? t).map (·.size) = some c.size) (hk : K (a.put o.dst (.agg c))) :
    o.quiet P a (fun w' => ∃ q : Quiet.Behind wr, w' = q.world) K := by
  refine quiet_run (.agg c) ?_ hk
  rintro w ⟨q, rfl⟩
  have hb' : q.world.heap[b]? = some (.cells c t') := (q.below.block b (Array.getElem?_eq_some_iff.1 hb).1).trans hb
  have hr := run_load q.world b t c d hb' hu hd hi
  unfold execOp
  simp only [ho, Sem.run_bind, Sem.run_pure, Result.andThen_ok, hp, hr]
theorem run_guard {P : Program} (b : BinOp) (t : TypeId) (x y : Operand) (c c' : Array Value) (hg : P.eqGuardType P.depth t = false) (w : World) : (eqGuard b t x y (.agg c) (.agg c')).run P w = .ok () w := by
  unfold eqGuard
  cases b <;> simp [hg]
/-- Two values held against one another. -/
theorem quiet_bin {P : Program} {wr : World} {o : Oper} {a : Act} {K : Act → Prop} (b : BinOp) (x y : Operand) (t t' : TypeId) (ho : o.op = .binOp b t x y t') (v : Value) (c c' : Array Value) (hx : a.eval x = .agg c) (hy : a.eval y = .agg c') (hg : P.eqGuardType P.depth t = false)
    (h : ∀ w, (binOp b t (.agg c) (.agg c')).run P w = .ok v w) (hk : K (a.put o.dst v)) : o.quiet P a (fun w' => ∃ q : Quiet.Behind wr, w' = q.world) K := by
  refine quiet_run v ?_ hk
  rintro w ⟨q, rfl⟩
  have h1 := run_guard b t x y c c' hg q.world
  have h2 := h q.world
  unfold execOp
  simp only [ho, Sem.run_bind, Sem.run_pure, Result.andThen_ok, hx, hy, h1, h2]
/-- The same in a region that keeps its order. -/
theorem bin {P : Program} (w : World) {ops : Array Oper} {rest : List Oper} {o : Oper} {a : Act} {Q : Exit → Act → World → Prop} (hgd : Region.wanted o (yielded ops a.tmps) = true) (b : BinOp) (x y : Operand) (t t' : TypeId) (ho : o.op = .binOp b t x y t') (v : Value) (c c' : Array Value)
    (hx : a.eval x = .agg c) (hy : a.eval y = .agg c') (hg : P.eqGuardType P.depth t = false) (h : ∀ w, (binOp b t (.agg c) (.agg c')).run P w = .ok v w) (hk : wpList P ops Q rest (a.put o.dst v) w) : wpList P ops Q (o :: rest) a w := by
  refine wpList_step fun K hK => ?_
  rw [if_pos hgd]
  have h1 := run_guard b t x y c c' hg w
  have h2 := h w
  unfold Oper.wp execOp
  simp only [ho, Sem.run_bind, Sem.run_pure, Result.andThen_ok, hx, hy, h1, h2]
  exact hK _ _ hk
/-! ### In a region that draws, operation by operation -/
theorem held_load {P : Program} {w : World} {o : Oper} {a : Act} (p : Operand) (t : TypeId) (ho : o.op = .load t p) (b : Nat) (c : Array Value) (d : TypeDesc) (hp : a.eval p = .pointer (some ⟨b, 0, none⟩))
    {t' : TypeId} (hb : w.heap[b]? = some (.cells c t')) (hu : P.underlying t = some d) (hd : wide d = true) (hi : (P.info? t).map (·.size) = some c.size) : (execOp a.eval o).run P w = .ok (.value (.agg c)) w := by
  have hr := run_load w b t c d hb hu hd hi
  unfold execOp
  simp only [ho, Sem.run_bind, Sem.run_pure, Result.andThen_ok, hp, hr]
theorem step_store {P : Program} (w : World) {ops : Array Oper} {o : Oper} {a : Act} {K : Act → World → Prop} {Q : Exit → Act → World → Prop} {E : Prop} (hgd : o.guard = none) (p x : Operand) (t : TypeId) (ho : o.op = .store t p x)
    (b : Nat) (c c' : Array Value) (hp : a.eval p = .pointer (some ⟨b, 0, none⟩)) (hx : a.eval x = .agg c') (hb : w.heap[b]? = some (.cells c t)) (hi : (P.info? t).map (·.size) = some c'.size) (hs : c.size = c'.size) (h1 : c'.all (·.oneCell') = true)
    (h : K (a.put o.dst undef) (w.setRow b c')) : if Region.wanted o (yielded ops a.tmps) = true then Oper.wp P o a w K Q else E := by
  have hw : Region.wanted o (yielded ops a.tmps) = true := by simp [Region.wanted, hgd]
  rw [if_pos hw]
  have hr := run_store w b t c c' hb hi hs h1
  unfold Oper.wp execOp
  simp only [ho, Sem.run_bind, Sem.run_pure, Result.andThen_ok, hp, hx, hr]
  exact h
end Go.Proofs.Ytimaehaaidjokaa.Whole
