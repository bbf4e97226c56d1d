/- A whole array by value, out of and into a block of memory, whatever its cells are: the steps of a walk; bytes and words in a block; of no function of the program. -/
import Derived.Test.YthopegokjbibmaaDoorHBytes
import Derived.Deep.WholeRow
namespace Go.Proofs.YthopegokjbibmaaDoor.Sha
open Go.RowKit

theorem cell_at {w : World} {b i : Nat} {cs : Array Value} {t : TypeId} {v : Value} (h : w.heap[b]? = some (.cells cs t)) (hi : cs[i]? = some v) : w.cell? ⟨b, i, none⟩ = some v := by
  simp [World.cell?, h, hi]
theorem frozen_at {w : World} {b i : Nat} {cs : Array Value} {t : TypeId} (h : w.heap[b]? = some (.cells cs t)) : w.frozen? ⟨b, i, none⟩ = false := by
  simp [World.frozen?, h]
theorem run_loadAt {P : Program} (w : World) (b : Nat) (t : TypeId) (c : Array Value) (n : Nat) (e : TypeId) {t' : TypeId} {fr : Nat × Nat} (hb : w.heap[b]? = some (.cells c t' fr)) (hu : P.underlying t = some (.array n e)) (hi : (P.info? t).map (·.size) = some c.size) :
    (Instr.loadAt t (.pointer (some ⟨b, 0, none⟩))).run P w = .ok (.agg c) w := by
  simp only [Instr.loadAt, Instr.sureAddr, Sem.run_bind, Sem.run_pure, Result.andThen]
  exact run_loadVar_row _ _ t' t c fr _ hb hu rfl hi
theorem run_storeAt {P : Program} (w : World) (b : Nat) (t : TypeId) (c c' : Array Value) (hb : w.heap[b]? = some (.cells c t)) (hi : (P.info? t).map (·.size) = some c'.size) (ho : c.size = c'.size) (h1 : c'.all (·.oneCell') = true) :
    (Instr.storeAt t (.pointer (some ⟨b, 0, none⟩)) (.agg c')).run P w = .ok () (w.setRow b c') := by
  simp only [Instr.storeAt, Instr.sureAddr, Sem.run_bind, Sem.run_pure, Result.andThen]
  exact run_storeVar_row _ _ t t c c' hb hi ho h1
theorem load_row {P : Program} (w : World) {ops : Array Oper} {rest : List Oper} {o : Oper} {a : Act} {Q : Exit → Act → World → Prop} (hgd : o.guard = none) (p : Operand) (t : TypeId) (ho : o.op = .load t p)
    (b : Nat) (c : Array Value) (n : Nat) (e : TypeId) (hp : a.eval p = .pointer (some ⟨b, 0, none⟩)) {t' : TypeId} {fr : Nat × Nat} (hb : w.heap[b]? = some (.cells c t' fr)) (hu : P.underlying t = some (.array n e)) (hi : (P.info? t).map (·.size) = some c.size)
    (h : wpList P ops Q rest (a.put o.dst (.agg c)) w) : wpList P ops Q (o :: rest) a w := by
  refine wpList_plain hgd fun K hK => ?_
  have hr := run_loadAt w b t c n e hb hu hi
  unfold Oper.wp execOp
  simp only [ho, Sem.run_bind, Sem.run_pure, Result.andThen_ok, hp, hr]
  exact hK _ _ h
theorem store_row {P : Program} (w : World) {ops : Array Oper} {rest : List Oper} {o : Oper} {a : Act} {Q : Exit → Act → World → Prop} (hgd : o.guard = none) (hd : o.dst = none) (p x : Operand) (t : TypeId) (ho : o.op = .store t p x)
    (b : Nat) (c c' : Array Value) (hp : a.eval p = .pointer (some ⟨b, 0, none⟩)) (hx : a.eval x = .agg c') (hb : w.heap[b]? = some (.cells c t)) (hi : (P.info? t).map (·.size) = some c'.size) (hs : c.size = c'.size) (h1 : c'.all (·.oneCell') = true)
    (h : wpList P ops Q rest a (w.setRow b c')) : wpList P ops Q (o :: rest) a w := by
  refine wpList_plain hgd fun K hK => ?_
  have hr := run_storeAt w b t c c' hb hi hs h1
  have he : a.put o.dst undef = a := by rw [hd]; rfl
  unfold Oper.wp execOp
  simp only [ho, Sem.run_bind, Sem.run_pure, Result.andThen_ok, hp, hx, hr]
  refine hK _ _ ?_
  rw [he]
  exact h
theorem step_load_row {P : Program} (w : World) {ops : Array Oper} {o : Oper} {a : Act} {K : Act → World → Prop} {Q : Exit → Act → World → Prop} {E : Prop} (hgd : o.guard = none) (p : Operand) (t : TypeId) (ho : o.op = .load t p)
    (b : Nat) (c : Array Value) (n : Nat) (e : TypeId) (hp : a.eval p = .pointer (some ⟨b, 0, none⟩)) {t' : TypeId} {fr : Nat × Nat} (hb : w.heap[b]? = some (.cells c t' fr)) (hu : P.underlying t = some (.array n e)) (hi : (P.info? t).map (·.size) = some c.size)
    (h : K (a.put o.dst (.agg c)) w) : if Region.wanted o (yielded ops a.tmps) = true then Oper.wp P o a w K Q else E := by
  have hw : Region.wanted o (yielded ops a.tmps) = true := by simp [Region.wanted, hgd]
  rw [if_pos hw]
  have hr := run_loadAt w b t c n e hb hu hi
  unfold Oper.wp execOp
  simp only [ho, Sem.run_bind, Sem.run_pure, Result.andThen_ok, hp, hr]
  exact h
theorem step_store_row {P : Program} (w : World) {ops : Array Oper} {o : Oper} {a : Act} {K : Act → World → Prop} {Q : Exit → Act → World → Prop} {E : Prop} (hgd : o.guard = none) (p x : Operand) (t : TypeId) (ho : o.op = .store t p x)
    (b : Nat) (c c' : Array Value) (hp : a.eval p = .pointer (some ⟨b, 0, none⟩)) (hx : a.eval x = .agg c') (hb : w.heap[b]? = some (.cells c t)) (hi : (P.info? t).map (·.size) = some c'.size) (hs : c.size = c'.size) (h1 : c'.all (·.oneCell') = true)
    (h : K (a.put o.dst undef) (w.setRow b c')) : if Region.wanted o (yielded ops a.tmps) = true then Oper.wp P o a w K Q else E := by
  have hw : Region.wanted o (yielded ops a.tmps) = true := by simp [Region.wanted, hgd]
  rw [if_pos hw]
  have hr := run_storeAt w b t c c' hb hi hs h1
  unfold Oper.wp execOp
  simp only [ho, Sem.run_bind, Sem.run_pure, Result.andThen_ok, hp, hx, hr]
  exact h
theorem setRow_below {B g : Nat} {w0 w : World} (h : Below B w0 w) (hg : B ≤ g) (c : Array Value) : Below B w0 (w.setRow g c) :=
  ⟨h.os, h.tape, h.output, by simpa using h.size, fun k hk => (setRow_other w g k c (by omega)).trans (h.block k hk)⟩
theorem results_cell {fn : Func} {p : Tmp} {ty : TypeId} (h : fn.results = #[.cell p ty]) (tmps : Array Value) (P : Program) (w : World) {b : Nat} {c : Array Value} {n : Nat} {e : TypeId} (hp : tmps.getD p undef = .pointer (some ⟨b, 0, none⟩))
    (hb : w.heap[b]? = some (.cells c ty)) (hu : P.underlying ty = some (.array n e)) (hi : (P.info? ty).map (·.size) = some c.size) : (results fn tmps).run P w = .ok (.agg c) w := by
  have hr := run_loadVar_row (P := P) w b ty ty c (0, 0) _ hb hu rfl hi
  have hp' : tmps[p]?.getD undef = .pointer (some ⟨b, 0, none⟩) := by rw [← hp, Array.getD_eq_getD_getElem?]
  simp only [results, h]
  simp [hp', asAddr, hr]

/-- Words as values. -/
def words (l : List Nat) : List Value := l.map fun n : Nat => Value.int .u32 (n : Int)
theorem words_len (l : List Nat) : (words l).length = l.length := by simp [words]
theorem index_word (w : World) (t : TypeId) (n : Nat) (l : List Nat) (k : Nat) (hu : Tryd.prog.underlying t = some (.array n 79)) (hl : l.length = n) (hk : k < n) :
    (Instr.index t (.agg (words l).toArray) (.int .i64 (k : Int))).run Tryd.prog w = .ok (.int .u32 (l.getD k 0 : Nat)) w := by
  have hs : (sizeOf 79).run Tryd.prog w = .ok 1 w := Tryd.sizeOf79 w
  have hp : (part 79 (words l).toArray k).run Tryd.prog w = .ok (.int .u32 (l.getD k 0 : Nat)) w := by
    have : (words l).toArray[k]? = some (.int .u32 (l.getD k 0 : Nat)) := by simp [words, show k < l.length by omega]
    simp [part, this]
  simp [Instr.index, asIntOf, run_underlying hu, hs, hp, hk]
theorem words_one (l : List Nat) : (words l).toArray.all (·.oneCell') = true := by
  rw [Array.all_eq_true_iff_forall_mem]
  intro v hv
  obtain ⟨n, _, rfl⟩ := List.mem_map.1 (List.mem_toArray.1 hv)
  rfl
theorem vals_all (l : List UInt8) : (vals l).toArray.all (·.oneCell') = true := by
  rw [Array.all_eq_true_iff_forall_mem]
  exact fun v hv => vals_one l v (List.mem_toArray.1 hv)
theorem size46 : (Tryd.prog.info? 96).map (·.size) = some 64 := by kernel_rfl
theorem size43 : (Tryd.prog.info? 83).map (·.size) = some 64 := by kernel_rfl
theorem size36 : (Tryd.prog.info? 80).map (·.size) = some 8 := by kernel_rfl
end Go.Proofs.YthopegokjbibmaaDoor.Sha
