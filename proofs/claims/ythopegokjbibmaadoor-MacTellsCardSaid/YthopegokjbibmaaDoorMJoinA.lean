import Derived.OrdersHeld
import Derived.Deep.RegionHeld
import Derived.WalkKit
import Derived.Test.YthopegokjbibmaaDoorMConcat
import Derived.Test.YthopegokjbibmaaDoorMMath
import Derived.Laws.StructEq
import Derived.Test.YthopegokjbibmaaDoorMRow
import Derived.Test.YthopegokjbibmaaDoorMSign
import Derived.Test.YthopegokjbibmaaDoorHRefS
import Derived.Test.YthopegokjbibmaaDoorRefPut
import Derived.Test.YthopegokjbibmaaDoorMNarrow
import Derived.Test.YthopegokjbibmaaDoorRefTextV
import Derived.Test.YthopegokjbibmaaDoorRefName
import Derived.Test.YthopegokjbibmaaDoorMPut
import Derived.Test.YthopegokjbibmaaDoorMGet
/- A region that draws its order and ends in a store that waits for all the rest: what it loads may be taken first where a condition holds ahead of that store. Of no program. -/
namespace Go.Proofs.YthopegokjbibmaaDoor.Held
open Go Go.RowKit

/-- Does operation k wait for i, by way of others? -/
def waits (md : Region.Mode) (ops : Array Oper) : Nat → Nat → Nat → Bool
  | 0, _, _ => false
  | f + 1, k, i => match ops[k]? with
    | none => false
    | some o => o.after.toList.any fun e => Region.binds md e && (e.on == i || waits md ops f e.on i)
/-- Of each operation that has come up, all that it waits for has come up. -/
def Closed (md : Region.Mode) (ops : Array Oper) (listed : Array Bool) : Prop :=
  ∀ k o, ops[k]? = some o → listed.getD k true = true → ∀ e ∈ o.after, Region.binds md e = true → listed.getD e.on false = true
theorem closed_none (md : Region.Mode) (ops : Array Oper) : Closed md ops (Array.replicate ops.size false) := fun k o ho hl => by
  have hk := (Array.getElem?_eq_some_iff.1 ho).1
  simp [hk] at hl

section
variable {P : Program} {ops : Array Oper} {Q : Exit → Act → World → Prop} {md : Region.Mode} {S : World → Prop} {m : Nat}

theorem getD_true {l : Array Bool} {k : Nat} (h : l.getD k false = true) : l.getD k true = true := by
  rcases Nat.lt_or_ge k l.size with h' | h'
  · simp [h'] at h ⊢; exact h
  · simp [h']
theorem Closed.set {listed : Array Bool} {j : Nat} (h : Closed md ops listed) (hj : j ∈ Region.ready md ops listed) : Closed md ops (listed.setIfInBounds j true) := fun k o ho hl e he hb => by
  by_cases hkj : j = k
  · subst hkj
    obtain ⟨_, o', ho', hall⟩ := mem_ready.1 hj
    rw [ho] at ho'
    injection ho' with ho'
    subst ho'
    exact getD_set_true (hall e he hb)
  · rw [getD_set_ne true hkj] at hl
    exact getD_set_true (h k o ho hl e he hb)
theorem waits_listed {listed : Array Bool} (h : Closed md ops listed) : ∀ (f k i : Nat), (∀ o, ops[k]? = some o → ∀ e ∈ o.after, Region.binds md e = true → listed.getD e.on false = true) → waits md ops f k i = true → listed.getD i false = true
  | 0, _, _, _, hw => by simp [waits] at hw
  | f + 1, k, i, ha, hw => by
    unfold waits at hw
    split at hw
    · cases hw
    rename_i o ho
    obtain ⟨e, he, hb⟩ := List.any_eq_true.1 hw
    rw [Bool.and_eq_true, Bool.or_eq_true, beq_iff_eq] at hb
    have hl := ha o ho e (Array.mem_toList_iff.1 he) hb.1
    rcases hb.2 with h1 | h1
    · rw [← h1]; exact hl
    · exact waits_listed h f e.on i (fun o' ho' => h e.on o' ho' (getD_true hl)) h1

/-- Whatever order is picked from here on; behind each operation but the last one, S. -/
def wpAnyX (P : Program) (md : Region.Mode) (ops : Array Oper) (Q : Exit → Act → World → Prop) (S : World → Prop) (m : Nat) : Nat → Array Bool → Act → World → Prop
  | 0, listed, a, w => Region.ready md ops listed = [] ∧ Q .normal a w
  | fuel + 1, listed, a, w =>
    (Region.ready md ops listed = [] → Q .normal a w) ∧
    ∀ i ∈ Region.ready md ops listed, wpOp P ops Q i (fun a' w' => (i ≠ m → S w') ∧ wpAnyX P md ops Q S m fuel (listed.setIfInBounds i true) a' w') a w
theorem any_of : ∀ (fuel : Nat) (listed : Array Bool) (a : Act) (w : World), wpAnyX P md ops Q S m fuel listed a w → wpAny P md ops Q fuel listed a w
  | 0, _, _, _, h => h
  | fuel + 1, _, _, _, h => ⟨h.1, fun i hi => wpOp_mono (fun a' w' h' => any_of fuel _ a' w' h'.2) (h.2 i hi)⟩
theorem first {i : Nat} {oi : Oper} {v : Value} (hi : ops[i]? = some oi) (hsel : ∀ (j : Nat) (o : Oper) cs b, ops[j]? = some o → o.op ≠ .select cs b)
    (hQ : ∀ c a w, Q (.panic c) (a.put oi.dst v) w → Q (.panic c) a w) (f : Nat) (hw : waits md ops f m i = true) :
    ∀ (fuel : Nat) (listed : Array Bool) (a : Act) (w : World),
      (∀ j oj, ops[j]? = some oj → j ≠ i → listed.getD j true = false → (∀ e ∈ oj.after, Region.binds md e = true → e.on ≠ i) → oi.apart ops oj = true) →
      Closed md ops listed → i ∈ Region.ready md ops listed → YieldsIf P ops S oi v a → S w →
      wpAnyX P md ops Q S m fuel (listed.setIfInBounds i true) (a.put oi.dst v) w → wpAnyX P md ops Q S m (fuel + 1) listed a w := by
  intro fuel
  induction fuel with
  | zero =>
    intro listed a w _ _ hr hy hS H
    refine ⟨fun h => (by rw [h] at hr; cases hr), fun j hj => ?_⟩
    by_cases hji : j = i
    · subst hji; exact hy.wpOp hi hS ⟨fun _ => hS, H⟩
    · have := ready_mono hj hji
      rw [H.1] at this
      cases this
  | succ fuel ih =>
    intro listed a w hfree hc hr hy hS H
    refine ⟨fun h => (by rw [h] at hr; cases hr), fun j hj => ?_⟩
    by_cases hji : j = i
    · subst hji; exact hy.wpOp hi hS ⟨fun _ => hS, H⟩
    · have h1 := H.2 j (ready_mono hj hji)
      obtain ⟨hjun, oj, hoj, hall⟩ := mem_ready.1 hj
      have hjm : j ≠ m := fun hjm => by
        subst hjm
        have h2 := waits_listed hc f j i (fun o ho e he hb => by rw [hoj] at ho; injection ho with ho; subst ho; exact hall e he hb) hw
        have h0 := (mem_ready.1 hr).1
        rw [getD_true h2] at h0
        cases h0
      have hnot : ∀ e ∈ oj.after, Region.binds md e = true → e.on ≠ i := fun e he hb heq => by
        have h1 := hall e he hb
        have h0 := (mem_ready.1 hr).1
        rw [heq] at h1
        rw [getD_true h1] at h0
        cases h0
      have h2 := wpOp_putIf hoj (hfree j oj hoj hji hjun hnot) (fun cs b => hsel i oi cs b hi) (fun cs b => hsel j oj cs b hoj) hQ hy h1
      have hfree' : ∀ k ok, ops[k]? = some ok → k ≠ i → (listed.setIfInBounds j true).getD k true = false →
          (∀ e ∈ ok.after, Region.binds md e = true → e.on ≠ i) → oi.apart ops ok = true := fun k ok hk hki hun hno => by
        refine hfree k ok hk hki ?_ hno
        by_cases hjk : j = k
        · subst hjk; exact hjun
        · rw [getD_set_ne true hjk] at hun; exact hun
      refine wpOp_mono (fun a' w' h3 => ⟨h3.2.1, ih (listed.setIfInBounds j true) a' w' hfree' (hc.set hj) (ready_mono hr (Ne.symm hji)) h3.1 (h3.2.1 hjm) ?_⟩) h2
      rw [Array.setIfInBounds_comm _ _ hji]
      exact h3.2.2

/-- So many operations have come up, in this order, each when it might. -/
def reach (md : Region.Mode) (ops : Array Oper) : List Nat → Array Bool → Option (Array Bool)
  | [], l => some l
  | i :: is, l => if (Region.ready md ops l).contains i then reach md ops is (l.setIfInBounds i true) else none
theorem reach_closed : ∀ (is : List Nat) (l l' : Array Bool), Closed md ops l → reach md ops is l = some l' → Closed md ops l'
  | [], l, l', h, hr => by simp [reach] at hr; subst hr; exact h
  | i :: is, l, l', h, hr => by
    unfold reach at hr
    split at hr
    · rename_i hc
      exact reach_closed is _ l' (h.set (by simpa using hc)) hr
    · cases hr
/-- The same as a Bool, for the kernel. -/
def closedB (md : Region.Mode) (ops : Array Oper) (listed : Array Bool) : Bool :=
  (List.range ops.size).all fun k => !(listed.getD k true) || (match ops[k]? with | none => true | some o => o.after.toList.all fun e => !(Region.binds md e) || listed.getD e.on false)
theorem closed_of {listed : Array Bool} (h : closedB md ops listed = true) : Closed md ops listed := fun k o ho hl e he hb => by
  have hk := (Array.getElem?_eq_some_iff.1 ho).1
  have h1 := List.all_eq_true.1 h k (List.mem_range.2 hk)
  rw [hl, ho] at h1
  simp only [Bool.not_true, Bool.false_or] at h1
  have h2 := List.all_eq_true.1 h1 e (Array.mem_toList_iff.2 he)
  rw [hb] at h2
  simpa using h2

/-- Take number i first. -/
theorem take {i : Nat} {oi : Oper} {v : Value} {fuel : Nat} {listed : Array Bool} {a : Act} {w : World} (hi : ops[i]? = some oi)
    (hs : Region.noSelect ops = true) (hf : Region.free md ops listed i = true) (hr : (Region.ready md ops listed).contains i = true) (hw : waits md ops ops.size m i = true) (hc : closedB md ops listed = true)
    (hQ : ∀ c a w, Q (.panic c) (a.put oi.dst v) w → Q (.panic c) a w) (hy : YieldsIf P ops S oi v a) (hS : S w)
    (h : wpAnyX P md ops Q S m fuel (listed.setIfInBounds i true) (a.put oi.dst v) w) : wpAnyX P md ops Q S m (fuel + 1) listed a w :=
  first hi (Region.noSelect_spec hs) hQ _ hw fuel listed a w (Region.free_spec hi hf) (closed_of hc) (by simpa using hr) hy hS h

def Ready (P : Program) (md : Region.Mode) (ops : Array Oper) (Q : Exit → Act → World → Prop) (S : World → Prop) (m fuel : Nat) (listed : Array Bool) (a : Act) (w : World) (rs : List Nat) : Prop :=
  ∀ i ∈ rs, wpOp P ops Q i (fun a' w' => (i ≠ m → S w') ∧ wpAnyX P md ops Q S m fuel (listed.setIfInBounds i true) a' w') a w
theorem Ready.nil {fuel : Nat} {listed : Array Bool} {a : Act} {w : World} : Ready P md ops Q S m fuel listed a w [] := fun _ h => by cases h
/-- One that is not the last: S is to be shown anew. -/
theorem Ready.cons {fuel : Nat} {listed : Array Bool} {a : Act} {w : World} {i : Nat} {o : Oper} {rs : List Nat} (ho : ops[i]? = some o)
    (h : ∀ K' : Act → World → Prop, Shut (∀ a w, S w → (S w → wpAnyX P md ops Q S m fuel (listed.setIfInBounds i true) a w) → K' a w) → if Region.wanted o (yielded ops a.tmps) = true then Oper.wp P o a w K' Q else K' (a.put o.dst undef) w)
    (hs : Ready P md ops Q S m fuel listed a w rs) : Ready P md ops Q S m fuel listed a w (i :: rs) := fun j hj => by
  rcases List.mem_cons.1 hj with rfl | hj
  · exact wpOp_step ho (fun K' hK => h K' (fun a w hS hW => hK a w ⟨fun _ => hS, hW hS⟩))
  · exact hs j hj
/-- The last one. -/
theorem Ready.last {fuel : Nat} {listed : Array Bool} {a : Act} {w : World} {o : Oper} (ho : ops[m]? = some o)
    (h : ∀ K' : Act → World → Prop, Shut (∀ a w, wpAnyX P md ops Q S m fuel (listed.setIfInBounds m true) a w → K' a w) → if Region.wanted o (yielded ops a.tmps) = true then Oper.wp P o a w K' Q else K' (a.put o.dst undef) w) :
    Ready P md ops Q S m fuel listed a w [m] := fun j hj => by
  rcases List.mem_cons.1 hj with rfl | hj
  · exact wpOp_step ho (fun K' hK => h K' (fun a w hW => hK a w ⟨fun hn => absurd rfl hn, hW⟩))
  · cases hj
theorem ready {rs : List Nat} {fuel : Nat} {listed : Array Bool} {a : Act} {w : World} (hr : Region.ready md ops listed = rs) (hne : rs ≠ [])
    (h : Ready P md ops Q S m fuel listed a w rs) : wpAnyX P md ops Q S m (fuel + 1) listed a w :=
  ⟨fun h0 => absurd (hr ▸ h0) hne, hr ▸ h⟩
theorem done {listed : Array Bool} {a : Act} {w : World} (hr : Region.ready md ops listed = []) (h : Q .normal a w) : ∀ fuel, wpAnyX P md ops Q S m fuel listed a w
  | 0 => ⟨hr, h⟩
  | _ + 1 => ⟨fun _ => h, by rw [hr]; simp⟩
/-- The beginning. -/
theorem start {id : Nat} {a : Act} {w : World} (hm : P.follows .mixedOrders = true) (hS : S w.drew)
    (h : S w.drew → wpAnyX P .any ops Q S m ops.size (Array.replicate ops.size false) a w.drew) : (Code.region id ops true).wp P Q a w :=
  wp_region_any hm (any_of _ _ _ _ (h hS))
end
end Go.Proofs.YthopegokjbibmaaDoor.Held

/- Rows of the document's caveats, of one's own; of no function of the program. -/
namespace Go.Proofs.YthopegokjbibmaaDoor.Mac
open Go.RowKit Go.Proofs.YthopegokjbibmaaDoor.Sha

theorem infoR : (Tryd.prog.info? 41).map (fun i => (i.zero, i.size, i.bytes)) = some (some (.agg #[.int .i64 0, .int .u64 0]), 2, 16) := by kernel_rfl
/-- A row of caveats of one's own. -/
def MineR (w : World) (B : Nat) (v : Value) (ls : List Cav) : Prop := w.ownsRow B 41 2 v ls.length (ls.flatMap enc)
theorem MineR.row {B : Nat} {w : World} {v : Value} {ls : List Cav} (h : MineR w B v ls) (hf : ∀ c ∈ ls, Fair c) : Row w v ls := by
  have hc := fun g hg => World.ownsRow.cells h (g := g) hg
  rcases h.2 with ⟨rfl, h0⟩ | ⟨g, cap, cur, rfl, hB, hg, hcap, hm, hsz, htake⟩
  · exact .inl ⟨List.eq_nil_of_length_eq_zero h0, _, _, rfl, Nat.zero_le _⟩
  · by_cases hl : ls = []
    · subst hl; exact .inl ⟨rfl, _, _, rfl, hm⟩
    · refine .inr ⟨hl, g, 0, cap, rfl, (Array.getElem?_eq_some_iff.1 hg).1, hcap, hm, fun j x hj => ?_⟩
      obtain ⟨h0, h1⟩ := fm_get ls j x hj
      have e0 := hc g rfl _ _ h0
      have e1 := hc g rfl _ _ h1
      rw [Addr.add_lit] at e0 e1
      exact ⟨hf x (List.mem_of_getElem? hj), e0, e1⟩
/-- An append of nothing. -/
theorem rappend_empty (w : World) (B : Nat) (v : Value) (ls : List Cav) (h : MineR w B v ls) (a : Option Addr) (c : Nat) (ty : TypeId) :
    (Builtin.append_ #[29, 29] ty #[v, .slice a 0 c]).run Tryd.prog w = .ok v w := by
  obtain ⟨i0, hi, hz0, hz1, hz2⟩ := info_parts infoR
  have ht := Tryd.underlying29
  rcases h.2 with ⟨rfl, _⟩ | ⟨g, cap, cur, rfl, _, _, hnc, _⟩
  · cases a <;> simp [Builtin.append_, run_underlying ht, sizeOf, typeInfo, hi, Builtin.lenOf, Builtin.firstCells, loadCells, loadCellsFrom]
  · cases a <;> simp [Builtin.append_, run_underlying ht, sizeOf, typeInfo, hi, Builtin.lenOf, Builtin.firstCells, hnc, storeCells, loadCells, loadCellsFrom]

theorem MineR.more {w w' : World} {B : Nat} {v : Value} {ls : List Cav} (h : MineR w B v ls) (hb : Below w.heap.size w w') : MineR w' B v ls := by
  refine ⟨h.1, ?_⟩
  rcases h.2 with hn | ⟨g, cap, cur, hv, hB, hg, rest⟩
  · exact .inl hn
  · exact .inr ⟨g, cap, cur, hv, hB, (hb.block g (Array.getElem?_eq_some_iff.1 hg).1).trans hg, rest⟩
theorem MineR.set {w : World} {B T i : Nat} {v u : Value} {ls : List Cav} (h : MineR w B v ls) (hT : T < B) : MineR (w.setCell ⟨T, i, none⟩ u) B v ls := by
  refine ⟨h.1, ?_⟩
  rcases h.2 with hn | ⟨g, cap, cur, hv, hB, hg, rest⟩
  · exact .inl hn
  · exact .inr ⟨g, cap, cur, hv, hB, (Below.heap_setCell w _ u g (by simp only; omega)).trans hg, rest⟩
theorem MineR.base {w : World} {B B' : Nat} {v : Value} {ls : List Cav} (h : MineR w B v ls) (hB : B' ≤ B) : MineR w B' v ls := by
  refine ⟨h.1, ?_⟩
  rcases h.2 with hn | ⟨g, cap, cur, hv, hg1, rest⟩
  · exact .inl hn
  · exact .inr ⟨g, cap, cur, hv, by omega, rest⟩
theorem MineR.slice {w : World} {B : Nat} {v : Value} {ls : List Cav} (h : MineR w B v ls) : ∃ a cap, v = .slice a ls.length cap ∧ ls.length ≤ cap ∧ cap ≤ maxLen := by
  rcases h.2 with ⟨rfl, h0⟩ | ⟨g, cap, cur, rfl, hB, hg, hcap, hm, _⟩
  · exact ⟨_, _, by rw [h0], by omega, Nat.zero_le _⟩
  · exact ⟨_, _, rfl, hcap, hm⟩
theorem MineR.glue {w : World} {B n : Nat} {v : Value} {a b : List Cav} (h : w.ownsRow B 41 2 v n (a.flatMap enc ++ b.flatMap enc)) (hn : n = a.length + b.length) : MineR w B v (a ++ b) := by
  subst hn
  unfold MineR
  rw [List.length_append, List.flatMap_append]
  exact h
/-- One append of a row onto one's own. -/
theorem rappend_row {w : World} {B : Nat} {v u : Value} {a b : List Cav} (h : MineR w B v a) (hr : Row w u b) (hz : a.length + b.length ≤ 1000000) (hB : B ≤ w.heap.size) (ty : TypeId) :
    ∃ v' w', (Builtin.append_ #[29, 29] ty #[v, u]).run Tryd.prog w = .ok v' w' ∧ MineR w' B v' (a ++ b) ∧ Below B w w' := by
  obtain ⟨i0, hi, hz0, hz1, hz2⟩ := info_parts infoR
  rcases hr with ⟨rfl, ad, cap, rfl, _⟩ | ⟨_, g, o, cap, rfl, hg, hcap, hm, hcell⟩
  · exact ⟨v, w, rappend_empty w B v a h ad cap ty, by rw [List.append_nil]; exact h, Below.refl _ _⟩
  · obtain ⟨v', w', hr, h2, h3, _⟩ := run_append_own_at (P := Tryd.prog) w B 29 ty 41 i0 (.agg #[.int .i64 0, .int .u64 0]) 2 16 Tryd.underlying29 hi hz0 hz1 hz2 rfl (by decide) v a.length (a.flatMap enc) h ⟨g, o, none⟩ b.length cap (b.flatMap enc) (fm_len b) hcell.news (fm_one b) (by unfold maxLen; omega) (by omega) hB
    exact ⟨v', w', hr, MineR.glue h2 rfl, (Below.refl _ _).grown h3 hB (fun k hk => (World.ownsRow.lt h k hk).1)⟩

theorem rnew_two (w : World) (x y : Value) : ∀ j u, [x, y][j]? = some u → (w.alloc (.cells #[x, y] 41)).cell? ((⟨w.heap.size, 0, none⟩ : Addr).add j) = some u := by
  intro j u hj
  have h : (w.alloc (.cells #[x, y] 41)).heap[w.heap.size]? = some (.cells #[x, y] 41) := heap_alloc_new _ _
  rw [Addr.add_lit]
  match j with
  | 0 => simp at hj; subst hj; simp only [World.cell?, h]; rfl
  | 1 => simp at hj; subst hj; simp only [World.cell?, h]; rfl
  | (n + 2) => simp at hj
theorem MineR.snoc {w : World} {B n : Nat} {v : Value} {ls : List Cav} {x : Cav} (h : w.ownsRow B 41 2 v (n + 1) (ls.flatMap enc ++ [.int .i64 x.1, .int .u64 (x.2 : Int)])) (hn : n = ls.length) : MineR w B v (ls ++ [x]) := by
  subst hn
  unfold MineR
  rw [List.length_append, List.flatMap_append]
  simpa [enc] using h
/-- An append of a row onto one's own, inside a region that draws. -/
theorem step_rappend {w : World} {ops : Array Oper} {o : Oper} {a : Act} {K : Act → World → Prop} {Q : Exit → Act → World → Prop} {E : Prop} (hgd : o.guard = none) (s x : Operand)
    (ho : o.op = .call { callee := .builtin .append, args := #[s, x], argTypes := #[29, 29] })
    (B : Nat) (v u : Value) (l m : List Cav) (hs : a.eval s = v) (hx : a.eval x = u) (hown : MineR w B v l) (hr : Row w u m) (hz : l.length + m.length ≤ 1000000) (hB : B ≤ w.heap.size)
    (h : ∀ v' w', MineR w' B v' (l ++ m) → Below B w w' → K (a.put o.dst v') w') :
    if Region.wanted o (yielded ops a.tmps) = true then Oper.wp Tryd.prog o a w K Q else E := by
  have hw : Region.wanted o (yielded ops a.tmps) = true := by simp [Region.wanted, hgd]
  rw [if_pos hw]
  obtain ⟨v', w', hr, h2, h3⟩ := rappend_row hown hr hz hB o.type
  unfold Oper.wp execOp
  simp only [ho, resolve, invoke, builtin, Sem.run_bind, Sem.run_pure, Result.andThen_ok, List.map_toArray, List.map_cons, List.map_nil, hs, hx, hr]
  exact h v' w' h2 h3
end Go.Proofs.YthopegokjbibmaaDoor.Mac

/- Two caveats held against each other; of no function of the program. -/
namespace Go.Proofs.YthopegokjbibmaaDoor.Mac
open Go.RowKit

/-- Are two caveats the same? -/
def eqC (x y : Cav) : Bool := x.1 == y.1 && (x.2 : Int) == (y.2 : Int)
theorem eqC_self (x : Cav) : eqC x x = true := by unfold eqC; simp
theorem equal_cav (d : Nat) (x y : Cav) (w : World) :
    (Op.equalIn (d + 2) 27 (.agg #[.int .i64 x.1, .int .u64 (x.2 : Int)]) (.agg #[.int .i64 y.1, .int .u64 (y.2 : Int)])).run Tryd.prog w = .ok (eqC x y) w := by
  have hu : Tryd.prog.underlying 27 = some (.struct (Tryd.prog.fieldsOf 27)) := by kernel_rfl
  have p0 : ∀ a b : Int, (part 3 #[.int .i64 a, .int .u64 b] 0).run Tryd.prog w = .ok (.int .i64 a) w := fun _ _ => by kernel_rfl
  have p1 : ∀ a b : Int, (part 25 #[.int .i64 a, .int .u64 b] 1).run Tryd.prog w = .ok (.int .u64 b) w := fun _ _ => by kernel_rfl
  have he : ∀ a b : Int, (Op.equalIn (d + 1) 3 (.int .i64 a) (.int .i64 b)).run Tryd.prog w = .ok (a == b) w := fun a b => by simp [Op.equalIn, run_underlying Tryd.underlying3]
  have hf : ∀ a b : Int, (Op.equalIn (d + 1) 25 (.int .u64 a) (.int .u64 b)).run Tryd.prog w = .ok (a == b) w := fun a b => by simp [Op.equalIn, run_underlying Tryd.underlying25]
  rw [run_equalIn_struct w (d + 1) _ _ _ hu (by kernel_rfl)]
  obtain ⟨fs, hfs⟩ : ∃ fs, fs = (Tryd.prog.fieldsOf 27).toList := ⟨_, rfl⟩
  have h2 : ∃ f g, fs = [f, g] ∧ f.name ≠ "_" ∧ g.name ≠ "_" ∧ f.type = 3 ∧ g.type = 25 ∧ f.offset = 0 ∧ g.offset = 1 := by
    rw [hfs]
    exact ⟨(Tryd.prog.fieldsOf 27)[0]!, (Tryd.prog.fieldsOf 27)[1]!, by kernel_rfl, by decide +kernel, by decide +kernel, by kernel_rfl, by kernel_rfl, by kernel_rfl, by kernel_rfl⟩
  rw [← hfs]
  clear hfs hu
  obtain ⟨f, g, rfl, n1, n2, t1, t2, o1, o2⟩ := h2
  unfold eqC
  obtain ⟨r1, e1⟩ : ∃ r, (x.1 == y.1) = r := ⟨_, rfl⟩
  obtain ⟨r2, e2⟩ : ∃ r, ((x.2 : Int) == (y.2 : Int)) = r := ⟨_, rfl⟩
  simp only [Op.eqFields, if_pos n1, if_pos n2, t1, t2, o1, o2, Sem.run_bind, p0, he, Result.andThen_ok, e1, e2]
  cases r1 <;> simp only [Bool.not_false, Bool.not_true, if_true, if_false, Bool.false_eq_true, Sem.run_pure, Sem.run_bind, p1, hf, e2, Result.andThen_ok, Bool.false_and, Bool.true_and]
  cases r2 <;> simp only [Bool.not_false, Bool.not_true, if_true, if_false, Bool.false_eq_true, Sem.run_pure]
theorem eql_cav (x y : Cav) (w : World) : (binOp .eql 27 (.agg #[.int .i64 x.1, .int .u64 (x.2 : Int)]) (.agg #[.int .i64 y.1, .int .u64 (y.2 : Int)])).run Tryd.prog w = .ok (.bool (eqC x y)) w := by
  simp only [binOp]
  simp [Op.equal, Op.maxDepth, equal_cav 9998 x y w]
theorem neq_cav (x y : Cav) (w : World) : (binOp .neq 27 (.agg #[.int .i64 x.1, .int .u64 (x.2 : Int)]) (.agg #[.int .i64 y.1, .int .u64 (y.2 : Int)])).run Tryd.prog w = .ok (.bool (!eqC x y)) w := by
  simp only [binOp]
  simp [Op.equal, Op.maxDepth, equal_cav 9998 x y w]
end Go.Proofs.YthopegokjbibmaaDoor.Mac

/- Two caveats of the document held against each other; of no function of the program. -/
namespace Go.Proofs.YthopegokjbibmaaDoor.Mac
open Go.RowKit

theorem equal_refCav (d : Nat) (x y : Cav) (w : World) :
    (Op.equalIn (d + 2) 41 (.agg #[.int .i64 x.1, .int .u64 (x.2 : Int)]) (.agg #[.int .i64 y.1, .int .u64 (y.2 : Int)])).run Tryd.prog w = .ok (eqC x y) w := by
  have hu : Tryd.prog.underlying 41 = some (.struct (Tryd.prog.fieldsOf 41)) := by kernel_rfl
  have p0 : ∀ a b : Int, (part 3 #[.int .i64 a, .int .u64 b] 0).run Tryd.prog w = .ok (.int .i64 a) w := fun _ _ => by kernel_rfl
  have p1 : ∀ a b : Int, (part 25 #[.int .i64 a, .int .u64 b] 1).run Tryd.prog w = .ok (.int .u64 b) w := fun _ _ => by kernel_rfl
  have he : ∀ a b : Int, (Op.equalIn (d + 1) 3 (.int .i64 a) (.int .i64 b)).run Tryd.prog w = .ok (a == b) w := fun a b => by simp [Op.equalIn, run_underlying Tryd.underlying3]
  have hf : ∀ a b : Int, (Op.equalIn (d + 1) 25 (.int .u64 a) (.int .u64 b)).run Tryd.prog w = .ok (a == b) w := fun a b => by simp [Op.equalIn, run_underlying Tryd.underlying25]
  rw [run_equalIn_struct w (d + 1) _ _ _ hu (by kernel_rfl)]
  obtain ⟨fs, hfs⟩ : ∃ fs, fs = (Tryd.prog.fieldsOf 41).toList := ⟨_, rfl⟩
  have h2 : ∃ f g, fs = [f, g] ∧ f.name ≠ "_" ∧ g.name ≠ "_" ∧ f.type = 3 ∧ g.type = 25 ∧ f.offset = 0 ∧ g.offset = 1 := by
    rw [hfs]
    exact ⟨(Tryd.prog.fieldsOf 41)[0]!, (Tryd.prog.fieldsOf 41)[1]!, by kernel_rfl, by decide +kernel, by decide +kernel, by kernel_rfl, by kernel_rfl, by kernel_rfl, by kernel_rfl⟩
  rw [← hfs]
  clear hfs hu
  obtain ⟨f, g, rfl, n1, n2, t1, t2, o1, o2⟩ := h2
  unfold eqC
  obtain ⟨r1, e1⟩ : ∃ r, (x.1 == y.1) = r := ⟨_, rfl⟩
  obtain ⟨r2, e2⟩ : ∃ r, ((x.2 : Int) == (y.2 : Int)) = r := ⟨_, rfl⟩
  simp only [Op.eqFields, if_pos n1, if_pos n2, t1, t2, o1, o2, Sem.run_bind, p0, he, Result.andThen_ok, e1, e2]
  cases r1 <;> simp only [Bool.not_false, Bool.not_true, if_true, if_false, Bool.false_eq_true, Sem.run_pure, Sem.run_bind, p1, hf, e2, Result.andThen_ok, Bool.false_and, Bool.true_and]
  cases r2 <;> simp only [Bool.not_false, Bool.not_true, if_true, if_false, Bool.false_eq_true, Sem.run_pure]
theorem eql_refCav (x y : Cav) (w : World) : (binOp .eql 41 (.agg #[.int .i64 x.1, .int .u64 (x.2 : Int)]) (.agg #[.int .i64 y.1, .int .u64 (y.2 : Int)])).run Tryd.prog w = .ok (.bool (eqC x y)) w := by
  simp only [binOp]
  simp [Op.equal, Op.maxDepth, equal_refCav 9998 x y w]
theorem neq_refCav (x y : Cav) (w : World) : (binOp .neq 41 (.agg #[.int .i64 x.1, .int .u64 (x.2 : Int)]) (.agg #[.int .i64 y.1, .int .u64 (y.2 : Int)])).run Tryd.prog w = .ok (.bool (!eqC x y)) w := by
  simp only [binOp]
  simp [Op.equal, Op.maxDepth, equal_refCav 9998 x y w]
end Go.Proofs.YthopegokjbibmaaDoor.Mac

/- The document's own answer to chapter 7: what its known and Allows tell; of memory that was there nothing turns. -/
namespace Go.Proofs.YthopegokjbibmaaDoor.Mac
open Go.RowKit Go.Proofs.YthopegokjbibmaaDoor.Sha

set_option maxHeartbeats 1000000 in
set_option maxRecDepth 100000 in
theorem rknown_any (v : Value) (ls : List Cav) (w : World) (hv : Row w v ls) :
    Calls Tryd.prog 40 #[v] w fun e w' => e = .returned (.bool (mayL ls)) ∧ w = w' := by
  obtain ⟨a, cap, rfl, hcap, hm⟩ := hv.slice
  have hlen := hv.len
  have HV := Lib.hid hv
  clear hv
  go_enter Tryd.func40, Tryd.ntmps40
  go_wp2
  go_loopw [3] (fun i wr => ∃ k : Nat, k ≤ ls.length ∧ i = .int .i64 k ∧ (ls.drop k).any strange = ls.any strange ∧ w = wr) (fun i _ => ls.length - (intOf i).toNat)
  case atStart => exact ⟨0, Nat.zero_le _, rfl, rfl, rfl⟩
  case round =>
    obtain ⟨k, hk, rfl, hf, rfl⟩ := hrel
    have HF := Lib.hid hf
    clear hf
    by_cases hlt : k < ls.length
    · obtain ⟨g, o, rfl, hg, hcell⟩ := HV.out.cells hlt
      obtain ⟨x, hx⟩ : ∃ x, ls[k]? = some x := ⟨_, List.getElem?_eq_getElem hlt⟩
      obtain ⟨_, hc1, hc2⟩ := hcell k x hx
      have HX := Lib.hid (any_drop hx strange)
      have hltz : (k : Int) < (ls.length : Int) := by omega
      obtain ⟨x1, x2⟩ := x
      clear hx hcell
      by_cases h1 : x1 = 1
      · have HS : Hid (strange (x1, x2) = false) := Lib.hid (by simp [strange, h1])
        have e1 : (x1 != 1) = false := by simp [h1]
        have HH := Lib.hid h1
        clear h1
        go_wp2
        go_roundw
        case rel => exact ⟨k + 1, by omega, by go_num, by rw [← HF.out, HX.out, HS.out]; rfl, trivial⟩
        case measure => simp [intOf]; omega
      · have e1 : (x1 != 1) = true := by simpa using h1
        by_cases h2 : x1 = 2
        · have HS : Hid (strange (x1, x2) = false) := Lib.hid (by simp [strange, h2])
          have e2 : (x1 != 2) = false := by simp [h2]
          have HH := Lib.hid h2
          clear h1 h2
          go_wp2
          go_roundw
          case rel => exact ⟨k + 1, by omega, by go_num, by rw [← HF.out, HX.out, HS.out]; rfl, trivial⟩
          case measure => simp [intOf]; omega
        · have e2 : (x1 != 2) = true := by simpa using h2
          have HE : Hid (mayL ls = false) := Lib.hid (by unfold mayL; rw [← HF.out, HX.out, show strange (x1, x2) = true by simp [strange, h1, h2]]; simp)
          clear h1 h2
          go_wp2
          go_ret
          exact ⟨by rw [HE.out]; rfl, rfl⟩
    · have hltz : ¬ (k : Int) < (ls.length : Int) := by omega
      have HE : Hid (mayL ls = decide (ls.length ≤ 8)) := Lib.hid (by
        unfold mayL
        rw [← HF.out, List.drop_eq_nil_of_le (by omega)]
        simp)
      by_cases h8 : ls.length ≤ 8
      · have h8z : (ls.length : Int) ≤ 8 := by omega
        go_wp2
        go_ret
        exact ⟨by rw [HE.out, decide_eq_true h8]; rfl, rfl⟩
      · have h8z : ¬ (ls.length : Int) ≤ 8 := by omega
        go_wp2
        go_ret
        exact ⟨by rw [HE.out, decide_eq_false h8]; rfl, rfl⟩
set_option maxHeartbeats 2000000 in
set_option maxRecDepth 100000 in
theorem rallows_any (ten : ByteArray) (v : Value) (ls : List Cav) (sig : ByteArray) (r u : Nat) (hr : r < 18446744073709551616) (w : World) (hv : Row w v ls) :
    Calls Tryd.prog 23 #[.agg #[.string ten, v, .string sig], .int .u64 (r : Int), .int .u64 (u : Int)] w fun e w' => e = .returned (.bool (allowsL ls r u)) ∧ Below w.heap.size w w' := by
  obtain ⟨a, cap, rfl, hcap, hm⟩ := hv.slice
  have hlen := hv.len
  have hb0 : Below w.heap.size w (w.alloc (.cells #[.string ten, .slice a ls.length cap, .string sig] 31)) := (Below.refl _ _).alloc (Nat.le_refl _) _
  have hh0 := heap_alloc_new w (.cells #[.string ten, .slice a ls.length cap, .string sig] 31)
  have HV := Lib.hid (hv.below hb0)
  clear hv
  go_enter Tryd.func23, Tryd.ntmps23
  go_wp2
  obtain ⟨w0, hw0⟩ : ∃ w0, w.alloc (.cells #[.string ten, .slice a ls.length cap, .string sig] 31) = w0 := ⟨_, rfl⟩
  rw [hw0] at hb0 HV hh0 ⊢
  have H0 := Lib.hid hh0
  clear hw0 hh0
  go_loopw [7] (fun i wr => ∃ k : Nat, k ≤ ls.length ∧ i = .int .i64 k ∧ (ls.drop k).all (letsB r u) = allowsL ls r u ∧ Below w0.heap.size w0 wr) (fun i _ => ls.length - (intOf i).toNat)
  case atStart => exact ⟨0, Nat.zero_le _, rfl, rfl, Below.refl _ _⟩
  case round =>
    obtain ⟨k, hk, rfl, hf, hb⟩ := hrel
    have HF := Lib.hid hf
    clear hf
    obtain ⟨_, t1, _⟩ := Boxes.cells3 (Boxes.keep H0.out hb)
    by_cases hlt : k < ls.length
    · obtain ⟨g, o, rfl, hg, hcell⟩ := HV.out.cells hlt
      obtain ⟨x, hx⟩ : ∃ x, ls[k]? = some x := ⟨_, List.getElem?_eq_getElem hlt⟩
      obtain ⟨hfx, hc1, hc2⟩ := hcell.below hg hb k x hx
      have HX := Lib.hid (all_drop hx (letsB r u))
      have hltz : (k : Int) < (ls.length : Int) := by omega
      obtain ⟨x1, n⟩ := x
      have hn : n < 18446744073709551616 := hfx.2.2
      have hb1 : Below w0.heap.size w0 (wr.alloc (.cells #[.int .i64 x1, .int .u64 (n : Int)] 41)) := hb.alloc hb.size _
      clear hx hcell hfx
      by_cases h1 : x1 = 1
      · subst h1
        have ha : bits .and .u64 (n : Int) (r : Int) = ((n &&& r : Nat) : Int) := u64_and_nat _ _ hn hr
        have HE : Hid (letsB r u (1, n) = decide (n &&& r = r)) := Lib.hid (by simp [letsB])
        obtain ⟨m, hm⟩ : ∃ m, n &&& r = m := ⟨_, rfl⟩
        rw [hm] at ha HE
        clear hm
        by_cases hq : m = r
        · have hq' : ((m : Int) != (r : Int)) = false := by simp [hq]
          have HE1 : Hid (letsB r u (1, n) = true) := Lib.hid (by rw [HE.out, decide_eq_true hq])
          have HQ := Lib.hid hq
          clear hq HE
          go_wp2
          go_roundw
          case rel => exact ⟨k + 1, by omega, by go_num, by rw [← HF.out, HX.out, HE1.out]; rfl, hb1⟩
          case measure => simp [intOf]; omega
        · have hq' : ((m : Int) != (r : Int)) = true := by rw [bne_iff_ne]; omega
          have HE1 : Hid (letsB r u (1, n) = false) := Lib.hid (by rw [HE.out, decide_eq_false hq])
          clear hq HE
          go_wp2
          go_ret
          exact ⟨by rw [← HF.out, HX.out, HE1.out]; rfl, hb0.trans (hb1.mono hb0.size)⟩
      · have e1 : (x1 == 1) = false := by simpa using h1
        by_cases h2 : x1 = 2
        · subst h2
          clear e1 h1
          have HE : Hid (letsB r u (2, n) = decide (u ≤ n)) := Lib.hid (by simp [letsB])
          by_cases hq : n < u
          · have hqz : (n : Int) < (u : Int) := by omega
            have HE1 : Hid (letsB r u (2, n) = false) := Lib.hid (by rw [HE.out, decide_eq_false (by omega)])
            clear HE
            go_wp2
            go_ret
            exact ⟨by rw [← HF.out, HX.out, HE1.out]; rfl, hb0.trans (hb1.mono hb0.size)⟩
          · have hqz : ¬ (n : Int) < (u : Int) := by omega
            have HE1 : Hid (letsB r u (2, n) = true) := Lib.hid (by rw [HE.out, decide_eq_true (by omega)])
            clear HE
            go_wp2
            go_roundw
            case rel => exact ⟨k + 1, by omega, by go_num, by rw [← HF.out, HX.out, HE1.out]; rfl, hb1⟩
            case measure => simp [intOf]; omega
        · have e2 : (x1 == 2) = false := by simpa using h2
          have HE1 : Hid (letsB r u (x1, n) = true) := Lib.hid (by simp [letsB, h1, h2])
          clear h1 h2
          go_wp2
          go_roundw
          case rel => exact ⟨k + 1, by omega, by go_num, by rw [← HF.out, HX.out, HE1.out]; rfl, hb1⟩
          case measure => simp [intOf]; omega
    · have hltz : ¬ (k : Int) < (ls.length : Int) := by omega
      go_wp2
      go_ret
      refine ⟨?_, hb0.trans (hb.mono hb0.size)⟩
      rw [← HF.out, List.drop_eq_nil_of_le (by omega)]
      rfl
end Go.Proofs.YthopegokjbibmaaDoor.Mac

/- The document's own answer to chapter 7: what its mixed, Sign, New and put tell; of memory that was there nothing turns. -/
namespace Go.Proofs.YthopegokjbibmaaDoor.Mac
open Go.RowKit Go.Proofs.YthopegokjbibmaaDoor.Sha
open Go.Proofs.YthopegokjbibmaaDoor.Boxes (set3 set3_box set3_below cells3 keep)

theorem mix_next {k : List UInt8} (hk : k.length ≤ 64) (x : UInt8) {i : Nat} (hi : i < 64) : (mixL k x).take (i + 1) = (mixL k x).take i ++ [(k.getD i 0) ^^^ x] := by
  have hl := padL_len hk
  rw [List.take_add_one]
  congr 1
  unfold mixL
  rw [List.getElem?_map]
  by_cases h : i < k.length
  · rw [show (padL k)[i]? = some k[i] by unfold padL; rw [List.getElem?_append_left h, List.getElem?_eq_getElem h]]
    simp [List.getD_eq_getElem?_getD, h]
  · rw [show (padL k)[i]? = some 0 by unfold padL; rw [List.getElem?_append_right (by omega), List.getElem?_replicate, if_pos (by omega)]]
    simp [List.getD_eq_getElem?_getD, h]
set_option maxHeartbeats 2000000 in
set_option maxRecDepth 100000 in
theorem rmixed_any (k : ByteArray) (hk : k.size ≤ 64) (x : UInt8) (w : World) :
    Calls Tryd.prog 38 #[.string k, .int .u8 (x.toNat : Int)] w fun e w' => e = .returned (.string (str (mixL k.data.toList x))) ∧ Below w.heap.size w w' := by
  have hkl : k.data.toList.length ≤ 64 := by rw [size_list]; exact hk
  have HKL := Lib.hid hkl
  clear hkl
  go_enter Tryd.func38, Tryd.ntmps38
  go_wp2
  go_loopw [5, 6] (fun v i wr => ∃ (j : Nat) (s : ByteArray), j ≤ 64 ∧ i = .int .i64 j ∧ v = .string s ∧ s = str ((mixL k.data.toList x).take j) ∧ Below w.heap.size w wr) (fun _ i _ => 64 - (intOf i).toNat)
  case atStart => exact ⟨0, _, Nat.zero_le _, rfl, rfl, rfl, Below.refl _ _⟩
  case round =>
    obtain ⟨j, s, hj, rfl, rfl, hs, hb⟩ := hrel
    by_cases hlt : j < 64
    · have hltz : (j : Int) < 64 := by omega
      have hsz : s.size ≤ 64 := by rw [hs, str_size, List.length_take]; omega
      obtain ⟨c, hc⟩ : ∃ c, k.data.toList.getD j 0 = c := ⟨_, rfl⟩
      have hx := xor_int c x
      obtain ⟨y, hy⟩ : ∃ y, c ^^^ x = y := ⟨_, rfl⟩
      rw [hy] at hx
      have HN : Hid (s ++ str [y] = str ((mixL k.data.toList x).take (j + 1))) := Lib.hid (by rw [mix_next HKL.out x hlt, hc, hy, hs]; exact glue _ _)
      have hcv := conv_built wr [y] (by simp)
      have hy1 : (str [y]).size = 1 := by rw [str_size]; rfl
      have hbn : Below w.heap.size w (wr.alloc (.cells (vals [y]).toArray 5)) := hb.alloc hb.size _
      simp only [vals, List.map_cons, List.map_nil, List.length_cons, List.length_nil, Nat.zero_add] at hcv hbn
      by_cases hin : j < k.size
      · have hinz : (j : Int) < (k.size : Int) := by omega
        have hcc : k[j] = c := by rw [← hc, List.getD_eq_getElem?_getD, List.getElem?_eq_getElem (by rw [size_list]; exact hin)]; rfl
        generalize str [y] = Y at HN hcv hy1
        clear hc hs hy
        go_wp2
        go_roundw
        case rel => exact ⟨j + 1, _, by omega, by go_num, rfl, HN.out, hbn⟩
        case measure => simp [intOf]; omega
      · have hinz : ¬ (j : Int) < (k.size : Int) := by omega
        have hc0 : c = 0 := by rw [← hc, List.getD_eq_getElem?_getD, List.getElem?_eq_none (by rw [size_list]; omega)]; rfl
        subst hc0
        have hx0 : bits .xor .u8 0 (x.toNat : Int) = (y.toNat : Int) := hx
        generalize str [y] = Y at HN hcv hy1
        clear hc hs hy hx
        go_wp2
        go_roundw
        case rel => exact ⟨j + 1, _, by omega, by go_num, rfl, HN.out, hbn⟩
        case measure => simp [intOf]; omega
    · obtain rfl : j = 64 := by omega
      have HM : Hid (str (mixL k.data.toList x) = s) := Lib.hid (by rw [hs, List.take_of_length_le (Nat.le_of_eq (mixL_len HKL.out x))])
      clear hs
      go_wp2
      go_ret
      exact ⟨by rw [HM.out]; rfl, hb⟩
theorem rsum_of (l : List UInt8) (hl : l.length ≤ 576460752303423488) (w : World) :
    Calls Tryd.prog 37 #[.string (str l)] w fun e w' => e = .returned (.string (str (sumL l))) ∧ Below w.heap.size w w' := by
  have := rsum_any (str l) (by rw [str_size]; exact hl) w
  rwa [str_toList] at this
theorem rmixed_of (l : List UInt8) (hl : l.length ≤ 64) (x : UInt8) (w : World) :
    Calls Tryd.prog 38 #[.string (str l), .int .u8 (x.toNat : Int)] w fun e w' => e = .returned (.string (str (mixL l x))) ∧ Below w.heap.size w w' := by
  have := rmixed_any (str l) (by rw [str_size]; exact hl) x w
  rwa [str_toList] at this
set_option maxHeartbeats 1000000 in
set_option maxRecDepth 100000 in
theorem rsign_any (key s : ByteArray) (hk : key.size ≤ 1125899906842624) (hs : s.size ≤ 1125899906842624) (w : World) :
    Calls Tryd.prog 18 #[.string key, .string s] w fun e w' => e = .returned (.string (str (signL key.data.toList s.data.toList))) ∧ Below w.heap.size w w' := by
  obtain ⟨k, hkk⟩ : ∃ k, keyL key.data.toList = k := ⟨_, rfl⟩
  have hk64 : k.length ≤ 64 := by rw [← hkk]; exact keyL_len _
  have m1 := mixL_len hk64 0x5c
  have m2 := mixL_len hk64 0x36
  have HE : Hid (signL key.data.toList s.data.toList = sumL (mixL k 0x5c ++ sumL (mixL k 0x36 ++ s.data.toList))) := Lib.hid (by unfold signL; rw [hkk])
  obtain ⟨A, hA⟩ : ∃ A, mixL k 0x5c = A := ⟨_, rfl⟩
  obtain ⟨B, hB⟩ : ∃ B, mixL k 0x36 = B := ⟨_, rfl⟩
  have HT1 : Hid (∀ w, Calls Tryd.prog 38 #[.string (str k), .int .u8 92] w fun e w' => e = .returned (.string (str A)) ∧ Below w.heap.size w w') := Lib.hid fun w => hA ▸ rmixed_of k hk64 0x5c w
  have HT2 : Hid (∀ w, Calls Tryd.prog 38 #[.string (str k), .int .u8 54] w fun e w' => e = .returned (.string (str B)) ∧ Below w.heap.size w w') := Lib.hid fun w => hB ▸ rmixed_of k hk64 0x36 w
  rw [hA] at HE m1
  rw [hB] at HE m2
  obtain ⟨C, hC⟩ : ∃ C, sumL (B ++ s.data.toList) = C := ⟨_, rfl⟩
  have hCl : C.length = 32 := by rw [← hC]; exact sumL_len _
  have HS1 : Hid (∀ w, Calls Tryd.prog 37 #[.string (str B ++ s)] w fun e w' => e = .returned (.string (str C)) ∧ Below w.heap.size w w') := Lib.hid fun w => by
    rw [glue_of, ← hC]
    exact rsum_of _ (by rw [List.length_append, m2, size_list]; omega) w
  rw [hC] at HE
  have HS2 : Hid (∀ w, Calls Tryd.prog 37 #[.string (str A ++ str C)] w fun e w' => e = .returned (.string (str (sumL (A ++ C)))) ∧ Below w.heap.size w w') := Lib.hid fun w => by
    rw [glue]
    exact rsum_of _ (by rw [List.length_append, m1, hCl]; omega) w
  have a1 : (str A).size = 64 := by rw [str_size, m1]
  have a2 : (str B).size = 64 := by rw [str_size, m2]
  have a3 : (str C).size = 32 := by rw [str_size, hCl]
  obtain ⟨D, hD⟩ : ∃ D, str (sumL (A ++ C)) = D := ⟨_, rfl⟩
  rw [hD] at HS2
  have HE2 : Hid (str (signL key.data.toList s.data.toList) = D) := Lib.hid (by rw [HE.out]; exact hD)
  by_cases hlong : 64 < key.size
  · have hlz : (64 : Int) < (key.size : Int) := by omega
    have HK : Hid (∀ w, Calls Tryd.prog 37 #[.string key] w fun e w' => e = .returned (.string (str k)) ∧ Below w.heap.size w w') := Lib.hid fun w => by
      have := rsum_any key (by omega) w
      rw [show sumL key.data.toList = k by rw [← hkk]; unfold keyL; rw [if_pos (by rw [size_list]; exact hlong)]] at this
      exact this
    clear hkk hA hB hC hCl hk64 m1 m2 HE hD
    generalize str A = A' at HT1 HS2 a1
    generalize str B = B' at HT2 HS1 a2
    generalize str C = C' at HS1 HS2 a3
    generalize str k = k' at HT1 HT2 HK
    go_enter Tryd.func18, Tryd.ntmps18
    go_wp2_with fail
    with_reducible refine (HK.out _).mono ?_
    rintro e w1 ⟨rfl, b1⟩
    go_wp2_with fail
    with_reducible refine (HT1.out _).mono ?_
    rintro e w2 ⟨rfl, b2⟩
    go_wp2_with fail
    with_reducible refine (HT2.out _).mono ?_
    rintro e w3 ⟨rfl, b3⟩
    have b123 := grows (grows b1 b2) b3
    go_wp2_with fail
    with_reducible refine (HS1.out _).mono ?_
    rintro e w4 ⟨rfl, b4⟩
    have b1234 := grows b123 b4
    go_wp2_with fail
    with_reducible refine (HS2.out _).mono ?_
    rintro e w5 ⟨rfl, b5⟩
    go_wp2_with fail
    go_ret
    exact ⟨by rw [HE2.out]; rfl, grows b1234 b5⟩
  · have hlz : ¬ (64 : Int) < (key.size : Int) := by omega
    have HK : Hid (str k = key) := Lib.hid (by rw [← hkk]; unfold keyL; rw [if_neg (by rw [size_list]; exact hlong), str_of])
    rw [HK.out] at HT1 HT2
    clear hkk hA hB hC hCl hk64 m1 m2 HE hD HK
    generalize str A = A' at HT1 HS2 a1
    generalize str B = B' at HT2 HS1 a2
    generalize str C = C' at HS1 HS2 a3
    go_enter Tryd.func18, Tryd.ntmps18
    go_wp2_with fail
    with_reducible refine (HT1.out _).mono ?_
    rintro e w2 ⟨rfl, b2⟩
    go_wp2_with fail
    with_reducible refine (HT2.out _).mono ?_
    rintro e w3 ⟨rfl, b3⟩
    have b123 := grows b2 b3
    go_wp2_with fail
    with_reducible refine (HS1.out _).mono ?_
    rintro e w4 ⟨rfl, b4⟩
    have b1234 := grows b123 b4
    go_wp2_with fail
    with_reducible refine (HS2.out _).mono ?_
    rintro e w5 ⟨rfl, b5⟩
    go_wp2_with fail
    go_ret
    exact ⟨by rw [HE2.out]; rfl, grows b1234 b5⟩

set_option maxHeartbeats 1000000 in
set_option maxRecDepth 100000 in
theorem rnew_any (key ten : ByteArray) (hk : key.size ≤ 1125899906842624) (hs : ten.size ≤ 1125899906842624) (w : World) :
    Calls Tryd.prog 19 #[.string key, .string ten] w fun e w' => e = .returned (.agg #[.string ten, .slice none 0 0, .string (str (signL key.data.toList ten.data.toList))]) ∧ Below w.heap.size w w' := by
  have HS := Lib.hid (fun w => rsign_any key ten hk hs w)
  have hb0 : Below w.heap.size w (w.alloc (.cells #[.string ⟨#[]⟩, .slice none 0 0, .string ⟨#[]⟩] 31)) := (Below.refl _ _).alloc (Nat.le_refl _) _
  have hn : (w.alloc (.cells #[.string ⟨#[]⟩, .slice none 0 0, .string ⟨#[]⟩] 31)).heap[w.heap.size]? = some (.cells #[.string ⟨#[]⟩, .slice none 0 0, .string ⟨#[]⟩] 31) := heap_alloc_new _ _
  generalize str (signL key.data.toList ten.data.toList) = S at HS ⊢
  go_enter Tryd.func19, Tryd.ntmps19
  go_wp2_with fail
  with_reducible refine (HS.out _).mono ?_
  rintro e w1 ⟨rfl, b1⟩
  have hh := (b1.block _ (by simp)).trans hn
  have hb := hb0.trans (b1.mono hb0.size)
  clear HS hn hb0 b1
  obtain ⟨c0, c1, c2, f0, f1, f2⟩ := cells3 hh
  have hres := set3_box hh (.string ten) (.slice none 0 0) (.string S)
  have hb2 := set3_below (a := .string ten) (b := .slice none 0 0) (c := .string S) hb (Nat.le_refl _)
  unfold set3 at hres hb2
  obtain ⟨e0, e1, e2, _⟩ := cells3 hres
  clear hres hh
  go_wp2
  refine bodyPost_ret (v := .agg #[.string ten, .slice none 0 0, .string S]) (by simp [results, Tryd.results19, go_sem, e0, e1, e2]) rfl ⟨rfl, hb2⟩
set_option maxHeartbeats 1000000 in
set_option maxRecDepth 100000 in
theorem rput_any (c : Cav) (hc : c.2 < 18446744073709551616) (w : World) :
    Calls Tryd.prog 34 #[val c] w fun e w' => e = .returned (.string (str (putC c))) ∧ Below w.heap.size w w' := by
  obtain ⟨k, n⟩ := c
  have hn : n < 18446744073709551616 := hc
  have HE : Hid (str (putC (k, n)) = Wire.str (Wire.putL (k64 k)) ++ Wire.str (Wire.putL n)) := Lib.hid (by unfold putC; exact (glue _ _).symm)
  have z1 : (Wire.str (Wire.putL (k64 k))).size ≤ 10 := by rw [Wire.str_size]; exact Wire.putL_ten (k64_lt k)
  have z2 : (Wire.str (Wire.putL n)).size ≤ 10 := by rw [Wire.str_size]; exact Wire.putL_ten hn
  have P1 : ∀ w, Calls Tryd.prog 47 #[.int .u64 (k64 k : Int)] w fun e w' => e = .returned (.string (Wire.str (Wire.putL (k64 k)))) ∧ Below w.heap.size w w' := Wire.refPut_any (k64 k) (k64_lt k)
  have P2 : ∀ w, Calls Tryd.prog 47 #[.int .u64 (n : Int)] w fun e w' => e = .returned (.string (Wire.str (Wire.putL n))) ∧ Below w.heap.size w w' := Wire.refPut_any n hn
  have hb0 : Below w.heap.size w (w.alloc (.cells #[.int .i64 k, .int .u64 (n : Int)] 41)) := (Below.refl _ _).alloc (Nat.le_refl _) _
  obtain ⟨c0, c1, _⟩ := cells2 (heap_alloc_new w (.cells #[.int .i64 k, .int .u64 (n : Int)] 41))
  have hlt : w.heap.size < (w.alloc (.cells #[.int .i64 k, .int .u64 (n : Int)] 41)).heap.size := by simp
  have hcv := conv_kind k
  generalize Wire.str (Wire.putL (k64 k)) = A at HE z1 P1
  generalize Wire.str (Wire.putL n) = B at HE z2 P2
  have HP1 := Lib.hid P1
  have HP2 := Lib.hid P2
  clear P1 P2 hc hn
  unfold val
  go_enter Tryd.func34, Tryd.ntmps34
  go_wp2
  have k0 := Quiet.cell (a := ⟨w.heap.size, 0, none⟩) hlt c0
  have k1 := Quiet.cell (a := ⟨w.heap.size, 1, none⟩) hlt c1
  clear c0 c1
  generalize k64 k = K at *
  refine Quiet.region (by kernel_rfl) (by kernel_rfl) ?_
  repeat (go_big_quiet_step (first | (go_at_call 47; (with_reducible exact Quiet.calls (HP1.out _))) | (go_at_call 47; (with_reducible exact Quiet.calls (HP2.out _)))))
  refine wpQuiet_nil ?_
  rintro _ ⟨pq, rfl⟩
  have hq := pq.below
  generalize pq.world = wq at hq ⊢
  go_wp2
  go_ret
  exact ⟨by rw [HE.out]; rfl, hb0.trans (hq.mono hb0.size)⟩
end Go.Proofs.YthopegokjbibmaaDoor.Mac

/- What the statements' own refT and sameT tell of tokens; of memory that was there nothing turns. -/
namespace Go.Proofs.YthopegokjbibmaaDoor.Mac
open Go.RowKit Go.Proofs.YthopegokjbibmaaDoor.Sha
open Go.Proofs.YthopegokjbibmaaDoor.Boxes (set3 set3_box set3_below cells3 keep)

theorem MineR.shape {w : World} {B : Nat} {v : Value} {ls : List Cav} (h : MineR w B v ls) : ∃ a n c, v = .slice a n c ∧ n = ls.length := by
  obtain ⟨a, c, rfl, _⟩ := h.slice
  exact ⟨a, _, c, rfl, rfl⟩
/-- What refT has laid: the token, room for the answer, and the answer so far. -/
def Rt (w : World) (ten sig : ByteArray) (v u : Value) (wr : World) : Prop :=
  Below w.heap.size w wr ∧ wr.heap[w.heap.size]? = some (.cells #[.string ten, v, .string sig] 24) ∧
    wr.heap[w.heap.size + 1]? = some (.cells #[.string ⟨#[]⟩, .slice none 0 0, .string ⟨#[]⟩] 31) ∧
    wr.heap[w.heap.size + 1 + 1]? = some (.cells #[.string ten, u, .string sig] 31)
theorem Rt.start (w : World) (ten sig : ByteArray) (v u : Value) :
    Rt w ten sig v u (((w.alloc (.cells #[.string ten, v, .string sig] 24)).alloc (.cells #[.string ⟨#[]⟩, .slice none 0 0, .string ⟨#[]⟩] 31)).alloc (.cells #[.string ten, u, .string sig] 31)) := by
  refine ⟨(((Below.refl _ _).alloc (Nat.le_refl _) _).alloc (by simp) _).alloc (by simp; omega) _, ?_, ?_, ?_⟩
  · rw [heap_alloc_old _ _ (by simp; omega), heap_alloc_old _ _ (by simp)]
    exact heap_alloc_new _ _
  · rw [heap_alloc_old _ _ (by simp)]
    have := heap_alloc_new (w.alloc (.cells #[.string ten, v, .string sig] 24)) (.cells #[.string ⟨#[]⟩, .slice none 0 0, .string ⟨#[]⟩] 31)
    rwa [World.size_alloc] at this
  · have := heap_alloc_new ((w.alloc (.cells #[.string ten, v, .string sig] 24)).alloc (.cells #[.string ⟨#[]⟩, .slice none 0 0, .string ⟨#[]⟩] 31)) (.cells #[.string ten, u, .string sig] 31)
    rwa [World.size_alloc, World.size_alloc] at this
theorem Rt.more {w wr w' : World} {ten sig : ByteArray} {v u : Value} (h : Rt w ten sig v u wr) (hb : Below wr.heap.size wr w') : Rt w ten sig v u w' :=
  ⟨h.1.trans (hb.mono h.1.size), keep h.2.1 hb, keep h.2.2.1 hb, keep h.2.2.2 hb⟩
theorem Rt.grow {w wr w' : World} {ten sig : ByteArray} {v u : Value} (h : Rt w ten sig v u wr) (hb : Below (w.heap.size + 1 + 1 + 1) wr w') : Rt w ten sig v u w' :=
  ⟨h.1.trans (hb.mono (by omega)), (hb.block _ (by omega)).trans h.2.1, (hb.block _ (by omega)).trans h.2.2.1, (hb.block _ (by omega)).trans h.2.2.2⟩
theorem Rt.row {w wr : World} {ten sig : ByteArray} {v u : Value} (h : Rt w ten sig v u wr) (x : Value) : Rt w ten sig v x (wr.setCell ⟨w.heap.size + 1 + 1, 1, none⟩ x) :=
  ⟨h.1.setCell (by simp only; omega) _, set_else h.2.1 (by omega), set_else h.2.2.1 (by omega), cell_set1 h.2.2.2⟩
theorem row_oneR {w : World} {g : Nat} {x1 : Int} {x2 : Nat} {t : TypeId} (h : w.heap[g]? = some (.cells #[.int .i64 x1, .int .u64 (x2 : Int)] t)) (hc : Fair (x1, x2)) : Row w (.slice (some ⟨g, 0, none⟩) 1 1) [(x1, x2)] := by
  obtain ⟨q0, q1, _⟩ := cells2 h
  refine .inr ⟨by simp, g, 0, 1, rfl, (Array.getElem?_eq_some_iff.1 h).1, by simp, by unfold maxLen; omega, fun j x hj => ?_⟩
  obtain ⟨hj0, rfl⟩ := List.getElem?_eq_some_iff.1 hj
  simp at hj0
  subst hj0
  exact ⟨hc, q0, q1⟩

set_option maxHeartbeats 4000000 in
set_option maxRecDepth 100000 in
theorem refT_any (ten sig : ByteArray) (v : Value) (l : List Cav) (w : World) (hv : Row w v l) (hz : l.length ≤ 999999) :
    Calls Tryd.prog 10 #[.agg #[.string ten, v, .string sig]] w fun e w' => (∃ u, e = .returned (.agg #[.string ten, u, .string sig]) ∧ MineR w' w.heap.size u l) ∧ Below w.heap.size w w' := by
  obtain ⟨a, cap, rfl, _, _⟩ := hv.slice
  have HS := Lib.hid (Rt.start w ten sig (.slice a l.length cap) (.slice none 0 0))
  obtain ⟨n, hn⟩ : ∃ n, l.length = n := ⟨_, rfl⟩
  rw [hn] at hv HS ⊢
  have HV := Lib.hid hv
  have HN := Lib.hid hn
  clear hv hn
  go_enter Tryd.func10, Tryd.ntmps10
  go_wp2
  go_loopw [4] (fun i wr => ∃ (k : Nat) (u : Value), k ≤ n ∧ i = .int .i64 k ∧ MineR wr (w.heap.size + 1 + 1 + 1) u (l.take k) ∧ Rt w ten sig (.slice a n cap) u wr) (fun i _ => n - (intOf i).toNat)
  case atStart => exact ⟨0, .slice none 0 0, Nat.zero_le _, rfl, World.ownsRow_nil _ _ _ _, HS.out⟩
  case round =>
    obtain ⟨k, u, hk, rfl, hown, hT⟩ := hrel
    have HO := Lib.hid hown
    have HT := Lib.hid hT
    obtain ⟨au, nu, cu, rfl, hnu⟩ := hown.shape
    clear hnu
    obtain ⟨_, c1, _⟩ := cells3 hT.2.1
    obtain ⟨_, d1, _, _, f1, _⟩ := cells3 hT.2.2.2
    have hlt1 : w.heap.size + 1 + 1 < wr.heap.size := (Array.getElem?_eq_some_iff.1 hT.2.2.2).1
    clear HS hown
    by_cases hlt : k < n
    · have hltz : (k : Int) < (n : Int) := by omega
      have hltc : k < l.length := by have := HN.out; omega
      obtain ⟨g, o, rfl, hg, hcell⟩ := HV.out.cells hltc
      obtain ⟨x, hx⟩ : ∃ x, l[k]? = some x := ⟨_, List.getElem?_eq_getElem hltc⟩
      have HN1 : Hid (l.take (k + 1) = l.take k ++ [x]) := Lib.hid (by rw [List.take_add_one, hx]; rfl)
      have HFx := Lib.hid (hcell k x hx).1
      have HK : Hid (∀ x', Below w.heap.size w x' → x'.cell? ⟨g, o + k * 2, none⟩ = some (.int .i64 x.1) ∧ x'.cell? ⟨g, o + k * 2 + 1, none⟩ = some (.int .u64 (x.2 : Int))) := Lib.hid fun x' h => (hcell.below hg h k x hx).2
      obtain ⟨x1, x2⟩ := x
      simp only at HK
      have HD : Hid (Rt w ten sig (.slice (some ⟨g, o, none⟩) n cap) (.slice au nu cu) wr.drew) := Lib.hid (HT.out.more (Below.refl _ _).drew)
      have HDA : Hid (∀ t, Rt w ten sig (.slice (some ⟨g, o, none⟩) n cap) (.slice au nu cu) (wr.drew.alloc (.cells #[.int .i64 x1, .int .u64 (x2 : Int)] t))) := Lib.hid fun t => HD.out.more ((Below.refl _ _).alloc (Nat.le_refl _) _)
      have HOA : Hid (MineR (wr.drew.alloc (.cells #[.int .i64 x1, .int .u64 (x2 : Int)] 41)) (w.heap.size + 1 + 1 + 1) (.slice au nu cu) (l.take k)) := Lib.hid (HO.out.more ((Below.refl _ _).drew.alloc (Nat.le_refl _) _))
      have HR1 : Hid (Row (wr.drew.alloc (.cells #[.int .i64 x1, .int .u64 (x2 : Int)] 41)) (.slice (some ⟨wr.heap.size, 0, none⟩) 1 1) [(x1, x2)]) := Lib.hid (row_oneR (heap_alloc_new wr.drew _) HFx.out)
      have HLz : Hid ((l.take k).length + [(x1, x2)].length ≤ 1000000 ∧ w.heap.size + 1 + 1 + 1 ≤ (wr.drew.alloc (.cells #[.int .i64 x1, .int .u64 (x2 : Int)] 41)).heap.size) := Lib.hid ⟨by rw [List.length_take]; simp; have := HN.out; omega, by rw [World.size_alloc]; show _ ≤ wr.heap.size + 1; omega⟩
      clear hx hcell hT
      go_wp2_with fail
      refine Held.start (m := 18) (S := fun x => x.cell? ⟨w.heap.size, 1, none⟩ = some (.slice (some ⟨g, o, none⟩) n cap) ∧ x.cell? ⟨w.heap.size + 1 + 1, 1, none⟩ = some (.slice au nu cu) ∧ x.cell? ⟨g, o + k * 2, none⟩ = some (.int .i64 x1) ∧ x.cell? ⟨g, o + k * 2 + 1, none⟩ = some (.int .u64 (x2 : Int))) (by kernel_rfl) ⟨(cells3 HD.out.2.1).2.1, (cells3 HD.out.2.2.2).2.1, HK.out _ HD.out.1⟩ (fun hHeld => ?_)
      (refine Held.take (i := 0) (v := ?_) rfl (by kernel_rfl) (by kernel_rfl) (by kernel_rfl) (by kernel_rfl) (by kernel_rfl) (fun _ _ _ h => h) (Or.inl ⟨by rfl, ?_⟩) hHeld ?_; rotate_left; focus (intro w hSw; (try dsimp only at hSw); go_simp; try with_reducible rfl))
      (refine Held.take (i := 1) (v := ?_) rfl (by kernel_rfl) (by kernel_rfl) (by kernel_rfl) (by kernel_rfl) (by kernel_rfl) (fun _ _ _ h => h) (Or.inl ⟨by rfl, ?_⟩) hHeld ?_; rotate_left; focus (intro w hSw; (try dsimp only at hSw); go_simp; try with_reducible rfl))
      (refine Held.take (i := 2) (v := ?_) rfl (by kernel_rfl) (by kernel_rfl) (by kernel_rfl) (by kernel_rfl) (by kernel_rfl) (fun _ _ _ h => h) (Or.inl ⟨by rfl, ?_⟩) hHeld ?_; rotate_left; focus (intro w hSw; (try dsimp only at hSw); go_simp; try with_reducible rfl))
      (refine Held.take (i := 3) (v := ?_) rfl (by kernel_rfl) (by kernel_rfl) (by kernel_rfl) (by kernel_rfl) (by kernel_rfl) (fun _ _ _ h => h) (Or.inl ⟨by rfl, ?_⟩) hHeld ?_; rotate_left; focus (intro w hSw; (try dsimp only at hSw); go_simp; try with_reducible rfl))
      (refine Held.take (i := 4) (v := ?_) rfl (by kernel_rfl) (by kernel_rfl) (by kernel_rfl) (by kernel_rfl) (by kernel_rfl) (fun _ _ _ h => h) (Or.inl ⟨by rfl, ?_⟩) hHeld ?_; rotate_left; focus (intro w hSw; (try dsimp only at hSw); go_simp; try with_reducible rfl))
      (refine Held.take (i := 5) (v := ?_) rfl (by kernel_rfl) (by kernel_rfl) (by kernel_rfl) (by kernel_rfl) (by kernel_rfl) (fun _ _ _ h => h) (Or.inl ⟨by rfl, ?_⟩) hHeld ?_; rotate_left; focus (intro w hSw; (try dsimp only at hSw); go_simp; try with_reducible rfl))
      (refine Held.take (i := 6) (v := ?_) rfl (by kernel_rfl) (by kernel_rfl) (by kernel_rfl) (by kernel_rfl) (by kernel_rfl) (fun _ _ _ h => h) (Or.inl ⟨by rfl, ?_⟩) hHeld ?_; rotate_left; focus (intro w hSw; (try dsimp only at hSw); go_simp; try with_reducible rfl))
      (refine Held.take (i := 7) (v := ?_) rfl (by kernel_rfl) (by kernel_rfl) (by kernel_rfl) (by kernel_rfl) (by kernel_rfl) (fun _ _ _ h => h) (Or.inl ⟨by rfl, ?_⟩) hHeld ?_; rotate_left; focus (intro w hSw; (try dsimp only at hSw); go_simp; try with_reducible rfl))
      (refine Held.take (i := 8) (v := ?_) rfl (by kernel_rfl) (by kernel_rfl) (by kernel_rfl) (by kernel_rfl) (by kernel_rfl) (fun _ _ _ h => h) (Or.inl ⟨by rfl, ?_⟩) hHeld ?_; rotate_left; focus (intro w hSw; (try dsimp only at hSw); go_simp; try with_reducible rfl))
      (refine Held.take (i := 9) (v := ?_) rfl (by kernel_rfl) (by kernel_rfl) (by kernel_rfl) (by kernel_rfl) (by kernel_rfl) (fun _ _ _ h => h) (Or.inl ⟨by rfl, ?_⟩) hHeld ?_; rotate_left; focus (intro w hSw; (try dsimp only at hSw); go_simp; try with_reducible rfl))
      (refine Held.take (i := 10) (v := ?_) rfl (by kernel_rfl) (by kernel_rfl) (by kernel_rfl) (by kernel_rfl) (by kernel_rfl) (fun _ _ _ h => h) (Or.inl ⟨by rfl, ?_⟩) hHeld ?_; rotate_left; focus (intro w hSw; (try dsimp only at hSw); go_simp; try with_reducible rfl))
      (refine Held.take (i := 11) (v := ?_) rfl (by kernel_rfl) (by kernel_rfl) (by kernel_rfl) (by kernel_rfl) (by kernel_rfl) (fun _ _ _ h => h) (Or.inl ⟨by rfl, ?_⟩) hHeld ?_; rotate_left; focus (intro w hSw; (try dsimp only at hSw); go_simp; try with_reducible rfl))
      (refine Held.take (i := 12) (v := ?_) rfl (by kernel_rfl) (by kernel_rfl) (by kernel_rfl) (by kernel_rfl) (by kernel_rfl) (fun _ _ _ h => h) (Or.inl ⟨by rfl, ?_⟩) hHeld ?_; rotate_left; focus (intro w hSw; (try dsimp only at hSw); go_simp; try with_reducible rfl))
      (refine Held.take (i := 13) (v := ?_) rfl (by kernel_rfl) (by kernel_rfl) (by kernel_rfl) (by kernel_rfl) (by kernel_rfl) (fun _ _ _ h => h) (Or.inl ⟨by rfl, ?_⟩) hHeld ?_; rotate_left; focus (intro w hSw; (try dsimp only at hSw); go_simp; try with_reducible rfl))
      (refine Held.take (i := 14) (v := ?_) rfl (by kernel_rfl) (by kernel_rfl) (by kernel_rfl) (by kernel_rfl) (by kernel_rfl) (fun _ _ _ h => h) (Or.inl ⟨by rfl, ?_⟩) hHeld ?_; rotate_left; focus (intro w hSw; (try dsimp only at hSw); go_simp; try with_reducible rfl))
      (refine Held.ready (rs := [15]) (by kernel_rfl) (by simp) ?_; refine Held.Ready.cons rfl (fun K hK => ?_) Held.Ready.nil; go_simp; refine hK.out _ _ ⟨(cells3 (HDA.out _).2.1).2.1, (cells3 (HDA.out _).2.2.2).2.1, HK.out _ (HDA.out 41).1⟩ (fun hHeld => ?_); clear hK K)
      (refine Held.ready (rs := [16]) (by kernel_rfl) (by simp) ?_; refine Held.Ready.cons rfl (fun K hK => ?_) Held.Ready.nil; (refine step_rappend rfl _ _ rfl (w.heap.size + 1 + 1 + 1) (.slice au nu cu) (.slice (some ⟨wr.heap.size, 0, none⟩) 1 1) (l.take k) [(x1, x2)] rfl rfl HOA.out HR1.out HLz.out.1 HLz.out.2 ?_; intro v5 w5 hown5 hb5; have ht5 := (HDA.out _).grow hb5; obtain ⟨a5, n5, c5, rfl, hn5⟩ := hown5.shape; clear hn5; obtain ⟨_, e1, _, _, g1, _⟩ := cells3 ht5.2.2.2); refine hK.out _ _ ⟨(cells3 ht5.2.1).2.1, (cells3 ht5.2.2.2).2.1, HK.out _ ht5.1⟩ (fun hHeld => ?_); clear hK K)
      (refine Held.take (i := 17) (v := ?_) rfl (by kernel_rfl) (by kernel_rfl) (by kernel_rfl) (by kernel_rfl) (by kernel_rfl) (fun _ _ _ h => h) (Or.inl ⟨by rfl, ?_⟩) hHeld ?_; rotate_left; focus (intro w hSw; (try dsimp only at hSw); go_simp; try with_reducible rfl))
      (refine Held.ready (rs := [18]) (by kernel_rfl) (by simp) ?_; refine Held.Ready.last rfl (fun K hK => ?_); go_simp; refine hK.out _ _ ?_; clear hK K)
      refine Held.done (by kernel_rfl) ?_ _
      have hown6 : MineR (w5.setCell ⟨w.heap.size + 1 + 1, 1, none⟩ (.slice a5 n5 c5)) (w.heap.size + 1 + 1 + 1) (.slice a5 n5 c5) (l.take (k + 1)) := by rw [HN1.out]; exact hown5.set (by omega)
      have HO6 := Lib.hid hown6
      have HT6 := Lib.hid (ht5.row (.slice a5 n5 c5))
      clear hown5 hown6 hb5 ht5 e1 g1 hHeld c1 d1 f1
      go_wp2
      go_roundw
      case rel => exact ⟨k + 1, _, by omega, by go_num, HO6.out, HT6.out⟩
      case measure => simp [intOf]; omega
    · have hltz : ¬ (k : Int) < (n : Int) := by omega
      have HO1 : Hid (MineR wr (w.heap.size + 1 + 1 + 1) (.slice au nu cu) l) := Lib.hid (by have := HO.out; rwa [List.take_of_length_le (by have := HN.out; omega)] at this)
      have hl2 : w.heap.size + 1 < wr.heap.size := by omega
      have HOF := Lib.hid ((((HO1.out.set (T := w.heap.size + 1) (i := 0) (u := .string ten) (by omega)).set (T := w.heap.size + 1) (i := 1) (u := .slice au nu cu) (by omega)).set (T := w.heap.size + 1) (i := 2) (u := .string sig) (by omega)).base (B' := w.heap.size) (by omega))
      obtain ⟨s0, s1, s2, _⟩ := cells3 hT.2.2.2
      obtain ⟨r0, r1, r2, g0, g1, g2⟩ := cells3 hT.2.2.1
      have hres := set3_box hT.2.2.1 (.string ten) (.slice au nu cu) (.string sig)
      have hbl := set3_below (T := w.heap.size + 1) (a := .string ten) (b := .slice au nu cu) (c := .string sig) hT.1 (Nat.le_succ _)
      unfold set3 at hres hbl
      obtain ⟨e0, e1, e2, _⟩ := cells3 hres
      clear hres hT
      go_wp2
      refine bodyPost_ret (v := .agg #[.string ten, .slice au nu cu, .string sig]) (by simp [results, Tryd.results10, go_sem, e0, e1, e2]) rfl ⟨⟨_, rfl, HOF.out⟩, hbl⟩

set_option maxHeartbeats 2000000 in
set_option maxRecDepth 100000 in
/-- Of a token and the document's of the same parts it says yes. -/
theorem sameT_yes (ten sig : ByteArray) (v u : Value) (l : List Cav) (w : World) (hv : Row w v l) (hu : Row w u l) (hz : l.length ≤ 999999) :
    Calls Tryd.prog 15 #[.agg #[.string ten, v, .string sig], .agg #[.string ten, u, .string sig]] w fun e w' => e = .returned (.bool true) ∧ Below w.heap.size w w' := by
  obtain ⟨a, cap, rfl, _, _⟩ := hv.slice
  obtain ⟨b, cap2, rfl, _, _⟩ := hu.slice
  have hb2 : Below w.heap.size w ((w.alloc (.cells #[.string ten, .slice a l.length cap, .string sig] 24)).alloc (.cells #[.string ten, .slice b l.length cap2, .string sig] 31)) := ((Below.refl _ _).alloc (Nat.le_refl _) _).alloc (by simp) _
  have hh3 := heap_alloc_new (w.alloc (.cells #[.string ten, .slice a l.length cap, .string sig] 24)) (.cells #[.string ten, .slice b l.length cap2, .string sig] 31)
  rw [World.size_alloc] at hh3
  have HC := Lib.hid (refT_any ten sig _ l _ (hv.below hb2) hz)
  obtain ⟨n, hn⟩ : ∃ n, l.length = n := ⟨_, rfl⟩
  have HN := Lib.hid hn
  rw [hn] at hv hu hb2 hh3 HC ⊢
  have HU := Lib.hid (hu.below hb2)
  have HF := Lib.hid hv.fair
  clear hv hu hn
  go_enter Tryd.func15, Tryd.ntmps15
  go_wp2_with fail
  with_reducible refine HC.out.mono ?_
  rintro e w1 ⟨⟨x, rfl, hown⟩, b1⟩
  have row1 := hown.row HF.out
  obtain ⟨a1, n1, c1, rfl, hn1⟩ := hown.shape
  rw [HN.out] at hn1
  subst hn1
  have bA : Below w1.heap.size w1 (w1.alloc (.cells #[.string ten, .slice a1 n1 c1, .string sig] 31)) := (Below.refl _ _).alloc (Nat.le_refl _) _
  have h5 := heap_alloc_new w1 (.cells #[.string ten, .slice a1 n1 c1, .string sig] 31)
  have hbA := (hb2.trans (b1.mono hb2.size)).trans (bA.mono (hb2.trans (b1.mono hb2.size)).size)
  have h3 := keep (keep hh3 b1) bA
  have R5 := Lib.hid (row1.below bA)
  have R3 := Lib.hid ((HU.out.below b1).below bA)
  obtain ⟨x0, x1, x2, _⟩ := cells3 h3
  obtain ⟨y0, y1, y2, _⟩ := cells3 h5
  have HB := Lib.hid hbA
  have H3 := Lib.hid h3
  have H5 := Lib.hid h5
  have e1 : (ten.toList == ten.toList) = true := by simp
  have e2 : (sig.toList == sig.toList) = true := by simp
  clear hown row1 b1 bA hb2 hh3 HC hbA h3 h5
  go_wp2_with fail
  obtain ⟨U, hU⟩ : ∃ U, U = w1.alloc (.cells #[.string ten, .slice a1 n1 c1, .string sig] 31) := ⟨_, rfl⟩
  rw [← hU] at R5 R3 HB H3 H5 ⊢
  clear hU x0 x1 x2 y0 y1 y2 e1 e2
  go_loopw [6] (fun i wr => ∃ k : Nat, k ≤ n1 ∧ i = .int .i64 k ∧ Below U.heap.size U wr) (fun i _ => n1 - (intOf i).toNat)
  case atStart => exact ⟨0, Nat.zero_le _, rfl, Below.refl _ _⟩
  case round =>
    obtain ⟨k, hk, rfl, hb⟩ := hrel
    have y3 := keep H3.out hb
    have y5 := keep H5.out hb
    obtain ⟨_, x1, _⟩ := cells3 y3
    obtain ⟨_, x4, _⟩ := cells3 y5
    by_cases hlt : k < n1
    · have hltz : (k : Int) < (n1 : Int) := by omega
      have hlm : k < l.length := by rw [HN.out]; exact hlt
      obtain ⟨g2, o2, rfl, hg2, cs2⟩ := (R5.out.below hb).cells hlm
      obtain ⟨g4, o4, rfl, hg4, cs4⟩ := (R3.out.below hb).cells hlm
      obtain ⟨x, hx⟩ : ∃ x, l[k]? = some x := ⟨_, List.getElem?_eq_getElem hlm⟩
      obtain ⟨_, z0, z1⟩ := cs2 k x hx
      obtain ⟨_, z2, z3⟩ := cs4 k x hx
      have E1 : ∀ w, (binOp .neq 41 (.agg #[.int .i64 x.1, .int .u64 (x.2 : Int)]) (.agg #[.int .i64 x.1, .int .u64 (x.2 : Int)])).run Tryd.prog w = .ok (.bool false) w := fun w => by
        have := neq_refCav x x w
        rwa [eqC_self] at this
      obtain ⟨n1', n2'⟩ := x
      simp only at z0 z1 z2 z3 E1
      have l1 := Quiet.cell (a := ⟨w1.heap.size, 1, none⟩) (Array.getElem?_eq_some_iff.1 y5).1 x4
      have l4 := Quiet.cell (a := ⟨w.heap.size + 1, 1, none⟩) (Array.getElem?_eq_some_iff.1 y3).1 x1
      have l5 := Quiet.cell (a := ⟨g2, o2 + k * 2, none⟩) hg2 z0
      have l6 := Quiet.cell (a := ⟨g2, o2 + k * 2 + 1, none⟩) hg2 z1
      have l7 := Quiet.cell (a := ⟨g4, o4 + k * 2, none⟩) hg4 z2
      have l8 := Quiet.cell (a := ⟨g4, o4 + k * 2 + 1, none⟩) hg4 z3
      clear hx cs2 cs4 y3 y5 z0 z1 z2 z3 hg2 hg4
      go_wp2
      refine Quiet.region (by kernel_rfl) (by kernel_rfl) ?_
      repeat (go_big_quiet_step (fail))
      refine wpQuiet_nil ?_
      rintro _ ⟨pq, rfl⟩
      have hq := pq.below
      generalize pq.world = wq at hq ⊢
      clear l1 l4 l5 l6 l7 l8 x1 x4
      go_wp2
      go_roundw
      case rel => exact ⟨k + 1, by omega, by go_num, hb.trans (hq.mono hb.size)⟩
      case measure => simp [intOf]; omega
    · have hltz : ¬ (k : Int) < (n1 : Int) := by omega
      go_wp2
      go_ret
      exact ⟨rfl, HB.out.trans (hb.mono HB.out.size)⟩
end Go.Proofs.YthopegokjbibmaaDoor.Mac

/- The document's own answer to chapter 7: what its Narrow and Check tell; of memory that was there nothing turns. -/
namespace Go.Proofs.YthopegokjbibmaaDoor.Mac
open Go.RowKit Go.Proofs.YthopegokjbibmaaDoor.Sha
open Go.Proofs.YthopegokjbibmaaDoor.Boxes (set3 set3_box set3_below cells3 keep)

/-- What the document's Narrow has laid: the token, the caveat, and room for the answer. -/
def Rn (w : World) (ten : ByteArray) (v : Value) (X : ByteArray) (c : Cav) (wr : World) : Prop :=
  Below w.heap.size w wr ∧ wr.heap[w.heap.size]? = some (.cells #[.string ten, v, .string X] 31) ∧
    wr.heap[w.heap.size + 1]? = some (.cells #[.int .i64 c.1, .int .u64 (c.2 : Int)] 41) ∧
    wr.heap[w.heap.size + 1 + 1]? = some (.cells #[.string ⟨#[]⟩, .slice none 0 0, .string ⟨#[]⟩] 31)
theorem Rn.start (w : World) (ten : ByteArray) (v : Value) (X : ByteArray) (c : Cav) :
    Rn w ten v X c (((w.alloc (.cells #[.string ten, v, .string X] 31)).alloc (.cells #[.int .i64 c.1, .int .u64 (c.2 : Int)] 41)).alloc (.cells #[.string ⟨#[]⟩, .slice none 0 0, .string ⟨#[]⟩] 31)) := by
  refine ⟨(((Below.refl _ _).alloc (Nat.le_refl _) _).alloc (by simp) _).alloc (by simp; omega) _, ?_, ?_, ?_⟩
  · rw [heap_alloc_old _ _ (by simp; omega), heap_alloc_old _ _ (by simp)]
    exact heap_alloc_new _ _
  · rw [heap_alloc_old _ _ (by simp)]
    have := heap_alloc_new (w.alloc (.cells #[.string ten, v, .string X] 31)) (.cells #[.int .i64 c.1, .int .u64 (c.2 : Int)] 41)
    rwa [World.size_alloc] at this
  · have := heap_alloc_new ((w.alloc (.cells #[.string ten, v, .string X] 31)).alloc (.cells #[.int .i64 c.1, .int .u64 (c.2 : Int)] 41)) (.cells #[.string ⟨#[]⟩, .slice none 0 0, .string ⟨#[]⟩] 31)
    rwa [World.size_alloc, World.size_alloc] at this
theorem Rn.more {w wr w' : World} {ten X : ByteArray} {v : Value} {c : Cav} (h : Rn w ten v X c wr) (hb : Below wr.heap.size wr w') : Rn w ten v X c w' :=
  ⟨h.1.trans (hb.mono h.1.size), keep h.2.1 hb, keep h.2.2.1 hb, keep h.2.2.2 hb⟩
theorem Rn.sig {w wr : World} {ten X : ByteArray} {v : Value} {c : Cav} (h : Rn w ten v X c wr) (Y : ByteArray) : Rn w ten v Y c (wr.setCell ⟨w.heap.size, 2, none⟩ (.string Y)) :=
  ⟨h.1.setCell (Nat.le_refl _) _, cell_set2 h.2.1, set_else h.2.2.1 (by omega), set_else h.2.2.2 (by omega)⟩
theorem Rn.row {w wr : World} {ten X : ByteArray} {v : Value} {c : Cav} (h : Rn w ten v X c wr) (u : Value) : Rn w ten u X c (wr.setCell ⟨w.heap.size, 1, none⟩ u) :=
  ⟨h.1.setCell (Nat.le_refl _) _, cell_set1 h.2.1, set_else h.2.2.1 (by omega), set_else h.2.2.2 (by omega)⟩

theorem Rn.grow {w wr w' : World} {ten X : ByteArray} {v : Value} {c : Cav} {B : Nat} (h : Rn w ten v X c wr) (hb : Below B wr w') (hB : w.heap.size + 1 + 1 < B) : Rn w ten v X c w' :=
  ⟨h.1.trans (hb.mono (by omega)), (hb.block _ (by omega)).trans h.2.1, (hb.block _ (by omega)).trans h.2.2.1, (hb.block _ (by omega)).trans h.2.2.2⟩
theorem Rn.loads {w wr : World} {ten X : ByteArray} {v : Value} {c : Cav} (h : Rn w ten v X c wr) : wr.cell? ⟨w.heap.size, 1, none⟩ = some v ∧ wr.cell? ⟨w.heap.size, 2, none⟩ = some (.string X) ∧ wr.cell? ⟨w.heap.size + 1, 0, none⟩ = some (.int .i64 c.1) ∧ wr.cell? ⟨w.heap.size + 1, 1, none⟩ = some (.int .u64 (c.2 : Int)) :=
  ⟨(cells3 h.2.1).2.1, (cells3 h.2.1).2.2.1, (cells2 h.2.2.1).1, (cells2 h.2.2.1).2.1⟩

set_option maxHeartbeats 4000000 in
set_option maxRecDepth 100000 in
theorem rnarrow_any (ten sig : ByteArray) (v : Value) (l : List Cav) (c : Cav) (hc : Fair c) (hs : sig.size ≤ 1125899906842624) (w : World) (hv : Row w v l) (hz : l.length ≤ 999999) :
    Calls Tryd.prog 16 #[.agg #[.string ten, v, .string sig], val c] w fun e w' => (∃ v', e = .returned (.agg #[.string ten, v', .string (str (signL sig.data.toList (putC c)))]) ∧ MineR w' w.heap.size v' (l ++ [c])) ∧ Below w.heap.size w w' := by
  obtain ⟨x1, x2⟩ := c
  obtain ⟨a, cap, rfl, _, _⟩ := hv.slice
  obtain ⟨n, hn⟩ : ∃ n, l.length = n := ⟨_, rfl⟩
  have HS := Lib.hid (Rn.start w ten (.slice a n cap) sig (x1, x2))
  rw [hn] at hv ⊢
  have HV := Lib.hid hv
  have HF := Lib.hid hc
  have hst := Lib.hid (rput_any (x1, x2) hc.2.2)
  have hpc := putC_len hc.2.2
  have hsg : Hid (∀ w', Calls Tryd.prog 18 #[.string sig, .string (str (putC (x1, x2)))] w' fun e w'' => e = .returned (.string (str (signL sig.data.toList (putC (x1, x2))))) ∧ Below w'.heap.size w' w'') := Lib.hid (fun w' => by
    have := rsign_any sig (str (putC (x1, x2))) hs (by rw [str_size]; omega) w'
    rwa [str_toList] at this)
  obtain ⟨P, hP⟩ : ∃ P, str (putC (x1, x2)) = P := ⟨_, rfl⟩
  obtain ⟨Y, hY⟩ : ∃ Y, str (signL sig.data.toList (putC (x1, x2))) = Y := ⟨_, rfl⟩
  rw [hP] at hst hsg
  rw [hY] at hsg ⊢
  unfold val at hst
  have HLz : Hid (([] : List Cav).length + l.length ≤ 1000000 ∧ l.length + [(x1, x2)].length ≤ 1000000) := Lib.hid (by rw [hn]; simp; omega)
  clear hv hn hc hP hY hpc hs
  unfold val
  go_enter Tryd.func16, Tryd.ntmps16
  go_upto_region 1 with fail
  obtain ⟨W, hW⟩ : ∃ W, W = ((w.alloc (.cells #[.string ten, .slice a n cap, .string sig] 31)).alloc (.cells #[.int .i64 x1, .int .u64 (x2 : Int)] 41)).alloc (.cells #[.string ⟨#[]⟩, .slice none 0 0, .string ⟨#[]⟩] 31) := ⟨_, rfl⟩
  simp only at HS
  rw [← hW] at HS ⊢
  clear hW
  have hRlt := (Array.getElem?_eq_some_iff.1 HS.out.2.2.2).1
  have HD : Hid (Rn w ten (.slice a n cap) sig (x1, x2) W.drew) := Lib.hid (HS.out.more (Below.refl _ _).drew)
  have HDA : Hid (∀ t, Rn w ten (.slice a n cap) sig (x1, x2) (W.drew.alloc (.cells #[.int .i64 x1, .int .u64 (x2 : Int)] t))) := Lib.hid fun t => HD.out.more ((Below.refl _ _).alloc (Nat.le_refl _) _)
  have ROWd : Hid (Row W.drew (.slice a n cap) l) := Lib.hid (HV.out.below HD.out.1)
  have ROWa : Hid (∀ t, Row (W.drew.alloc (.cells #[.int .i64 x1, .int .u64 (x2 : Int)] t)) (.slice a n cap) l) := Lib.hid fun t => HV.out.below (HDA.out t).1
  go_cut [11] (fun _ wx => ∃ a9 n9 c9, MineR wx W.heap.size (.slice a9 n9 c9) (l ++ [(x1, x2)]) ∧ Rn w ten (.slice a9 n9 c9) sig (x1, x2) wx)
  case first =>
    refine Held.start (m := 7) (S := fun x => x.cell? ⟨w.heap.size, 1, none⟩ = some (.slice a n cap) ∧ x.cell? ⟨w.heap.size, 2, none⟩ = some (.string sig) ∧ x.cell? ⟨w.heap.size + 1, 0, none⟩ = some (.int .i64 x1) ∧ x.cell? ⟨w.heap.size + 1, 1, none⟩ = some (.int .u64 (x2 : Int))) (by kernel_rfl) HD.out.loads (fun hHeld => ?_)
    (refine Held.take (i := 0) (v := ?_) rfl (by kernel_rfl) (by kernel_rfl) (by kernel_rfl) (by kernel_rfl) (by kernel_rfl) (fun _ _ _ h => h) (Or.inl ⟨by rfl, ?_⟩) hHeld ?_; rotate_left; focus (intro w hSw; (try dsimp only at hSw); go_simp; try with_reducible rfl))
    (refine Held.take (i := 1) (v := ?_) rfl (by kernel_rfl) (by kernel_rfl) (by kernel_rfl) (by kernel_rfl) (by kernel_rfl) (fun _ _ _ h => h) (Or.inl ⟨by rfl, ?_⟩) hHeld ?_; rotate_left; focus (intro w hSw; (try dsimp only at hSw); go_simp; try with_reducible rfl))
    (refine Held.take (i := 3) (v := ?_) rfl (by kernel_rfl) (by kernel_rfl) (by kernel_rfl) (by kernel_rfl) (by kernel_rfl) (fun _ _ _ h => h) (Or.inl ⟨by rfl, ?_⟩) hHeld ?_; rotate_left; focus (intro w hSw; (try dsimp only at hSw); go_simp; try with_reducible rfl))
    refine Held.ready (rs := [2, 4]) (by kernel_rfl) (by simp) ?_
    refine Held.Ready.cons rfl (fun K hK => ?_) (Held.Ready.cons rfl (fun K hK => ?_) Held.Ready.nil)
    · (refine step_rappend rfl _ _ rfl W.heap.size (.slice none 0 0) (.slice a n cap) [] l rfl rfl (World.ownsRow_nil _ _ _ _) ROWd.out HLz.out.1 (Nat.le_refl _) ?_; intro v7 w7 hown7 hb7; have hn7 := HD.out.grow hb7 hRlt; have hn8 := hn7.more ((Below.refl _ _).alloc (Nat.le_refl _) (.cells #[.int .i64 x1, .int .u64 (x2 : Int)] 41)); have hown8 : MineR (w7.alloc (.cells #[.int .i64 x1, .int .u64 (x2 : Int)] 41)) W.heap.size v7 l := hown7.more ((Below.refl _ _).alloc (Nat.le_refl _) _); have hrow8 := row_oneR (heap_alloc_new w7 (.cells #[.int .i64 x1, .int .u64 (x2 : Int)] 41)) HF.out; have hle8 : W.heap.size ≤ (w7.alloc (.cells #[.int .i64 x1, .int .u64 (x2 : Int)] 41)).heap.size := Nat.le_trans (show W.heap.size ≤ w7.heap.size from hb7.size) (Nat.le_of_lt (by simp)); refine hK.out _ _ hn7.loads (fun hHeld => ?_); clear hK K)
      (refine Held.ready (rs := [4]) (by kernel_rfl) (by simp) ?_; refine Held.Ready.cons rfl (fun K hK => ?_) Held.Ready.nil; go_simp; refine hK.out _ _ hn8.loads (fun hHeld => ?_); clear hK K)
      (refine Held.ready (rs := [5]) (by kernel_rfl) (by simp) ?_; refine Held.Ready.cons rfl (fun K hK => ?_) Held.Ready.nil; refine step_rappend rfl _ _ rfl W.heap.size v7 (.slice (some ⟨w7.heap.size, 0, none⟩) 1 1) l [(x1, x2)] rfl rfl hown8 hrow8 HLz.out.2 hle8 ?_; intro v9 w9 hown9 hb9; have hn9 := hn8.grow hb9 hRlt; obtain ⟨a9, n9, c9, rfl, h9⟩ := hown9.shape; clear h9; obtain ⟨_, e1, _, _, g1, _⟩ := cells3 hn9.2.1; refine hK.out _ _ hn9.loads (fun hHeld => ?_); clear hK K)
      (refine Held.take (i := 6) (v := ?_) rfl (by kernel_rfl) (by kernel_rfl) (by kernel_rfl) (by kernel_rfl) (by kernel_rfl) (fun _ _ _ h => h) (Or.inl ⟨by rfl, ?_⟩) hHeld ?_; rotate_left; focus (intro w hSw; (try dsimp only at hSw); go_simp; try with_reducible rfl))
      (refine Held.ready (rs := [7]) (by kernel_rfl) (by simp) ?_; refine Held.Ready.last rfl (fun K hK => ?_); go_simp; refine hK.out _ _ ?_; clear hK K)
      refine Held.done (by kernel_rfl) ?_ _
      have HO9 := Lib.hid (hown9.set (T := w.heap.size) (i := 1) (u := .slice a9 n9 c9) (by omega))
      have HR9 := Lib.hid (hn9.row (.slice a9 n9 c9))
      clear hown9 hown8 hown7 hrow8 hn7 hn8 hn9 hb7 hb9 e1 g1 hHeld
      go_wp2_with fail
      go_meet
      exact ⟨_, _, _, HO9.out, HR9.out⟩
    · (go_simp; refine hK.out _ _ (HDA.out _).loads (fun hHeld => ?_); clear hK K)
      (refine Held.ready (rs := [2]) (by kernel_rfl) (by simp) ?_; refine Held.Ready.cons rfl (fun K hK => ?_) Held.Ready.nil; refine step_rappend rfl _ _ rfl (W.drew.alloc (.cells #[.int .i64 x1, .int .u64 (x2 : Int)] 41)).heap.size (.slice none 0 0) (.slice a n cap) [] l rfl rfl (World.ownsRow_nil _ _ _ _) (ROWa.out _) HLz.out.1 (Nat.le_refl _) ?_; intro v7 w7 hown7 hb7; have hn7 := (HDA.out _).more hb7; have hrow8 := row_oneR (keep (heap_alloc_new W.drew (.cells #[.int .i64 x1, .int .u64 (x2 : Int)] 41)) hb7) HF.out; have hown8 : MineR w7 W.heap.size v7 l := hown7.base (Nat.le_of_lt (by simp)); have hle8 : W.heap.size ≤ w7.heap.size := Nat.le_trans (Nat.le_of_lt (by simp)) hb7.size; refine hK.out _ _ hn7.loads (fun hHeld => ?_); clear hK K)
      (refine Held.ready (rs := [5]) (by kernel_rfl) (by simp) ?_; refine Held.Ready.cons rfl (fun K hK => ?_) Held.Ready.nil; refine step_rappend rfl _ _ rfl W.heap.size v7 (.slice (some ⟨W.heap.size, 0, none⟩) 1 1) l [(x1, x2)] rfl rfl hown8 hrow8 HLz.out.2 hle8 ?_; intro v9 w9 hown9 hb9; have hn9 := hn7.grow hb9 hRlt; obtain ⟨a9, n9, c9, rfl, h9⟩ := hown9.shape; clear h9; obtain ⟨_, e1, _, _, g1, _⟩ := cells3 hn9.2.1; refine hK.out _ _ hn9.loads (fun hHeld => ?_); clear hK K)
      (refine Held.take (i := 6) (v := ?_) rfl (by kernel_rfl) (by kernel_rfl) (by kernel_rfl) (by kernel_rfl) (by kernel_rfl) (fun _ _ _ h => h) (Or.inl ⟨by rfl, ?_⟩) hHeld ?_; rotate_left; focus (intro w hSw; (try dsimp only at hSw); go_simp; try with_reducible rfl))
      (refine Held.ready (rs := [7]) (by kernel_rfl) (by simp) ?_; refine Held.Ready.last rfl (fun K hK => ?_); go_simp; refine hK.out _ _ ?_; clear hK K)
      refine Held.done (by kernel_rfl) ?_ _
      have HO9 := Lib.hid (hown9.set (T := w.heap.size) (i := 1) (u := .slice a9 n9 c9) (by omega))
      have HR9 := Lib.hid (hn9.row (.slice a9 n9 c9))
      clear hown9 hown8 hown7 hrow8 hn7 hn9 hb7 hb9 e1 g1 hHeld
      go_wp2_with fail
      go_meet
      exact ⟨_, _, _, HO9.out, HR9.out⟩
  case rest =>
    obtain ⟨a9, n9, c9, hown, hN⟩ := hcut
    have HO := Lib.hid hown
    have HN := Lib.hid hN
    have HND := Lib.hid (hN.more (Below.refl _ _).drew)
    clear hown hN HS HD HDA ROWd ROWa HV HF HLz
    go_upto_region 2 with fail
    refine Held.start (m := 6) (S := fun x => x.cell? ⟨w.heap.size, 1, none⟩ = some (.slice a9 n9 c9) ∧ x.cell? ⟨w.heap.size, 2, none⟩ = some (.string sig) ∧ x.cell? ⟨w.heap.size + 1, 0, none⟩ = some (.int .i64 x1) ∧ x.cell? ⟨w.heap.size + 1, 1, none⟩ = some (.int .u64 (x2 : Int))) (by kernel_rfl) HND.out.loads (fun hHeld => ?_)
    (refine Held.take (i := 0) (v := ?_) rfl (by kernel_rfl) (by kernel_rfl) (by kernel_rfl) (by kernel_rfl) (by kernel_rfl) (fun _ _ _ h => h) (Or.inl ⟨by rfl, ?_⟩) hHeld ?_; rotate_left; focus (intro w hSw; (try dsimp only at hSw); go_simp; try with_reducible rfl))
    (refine Held.take (i := 1) (v := ?_) rfl (by kernel_rfl) (by kernel_rfl) (by kernel_rfl) (by kernel_rfl) (by kernel_rfl) (fun _ _ _ h => h) (Or.inl ⟨by rfl, ?_⟩) hHeld ?_; rotate_left; focus (intro w hSw; (try dsimp only at hSw); go_simp; try with_reducible rfl))
    (refine Held.take (i := 2) (v := ?_) rfl (by kernel_rfl) (by kernel_rfl) (by kernel_rfl) (by kernel_rfl) (by kernel_rfl) (fun _ _ _ h => h) (Or.inl ⟨by rfl, ?_⟩) hHeld ?_; rotate_left; focus (intro w hSw; (try dsimp only at hSw); go_simp; try with_reducible rfl))
    (refine Held.ready (rs := [3]) (by kernel_rfl) (by simp) ?_; refine Held.Ready.cons rfl (fun K hK => ?_) Held.Ready.nil; go_simp; go_at_call 34; (with_reducible refine (hst.out _).mono ?_); rintro e w5 ⟨rfl, hb5⟩; have hn5 := HND.out.more hb5; refine hK.out _ _ hn5.loads (fun hHeld => ?_); clear hK K)
    (refine Held.ready (rs := [4]) (by kernel_rfl) (by simp) ?_; refine Held.Ready.cons rfl (fun K hK => ?_) Held.Ready.nil; go_simp; go_at_call 18; (with_reducible refine (hsg.out _).mono ?_); rintro e w6 ⟨rfl, hb6⟩; have hn6 := hn5.more hb6; obtain ⟨_, _, e2, _, _, g2⟩ := cells3 hn6.2.1; refine hK.out _ _ hn6.loads (fun hHeld => ?_); clear hK K)
    (refine Held.take (i := 5) (v := ?_) rfl (by kernel_rfl) (by kernel_rfl) (by kernel_rfl) (by kernel_rfl) (by kernel_rfl) (fun _ _ _ h => h) (Or.inl ⟨by rfl, ?_⟩) hHeld ?_; rotate_left; focus (intro w hSw; (try dsimp only at hSw); go_simp; try with_reducible rfl))
    (refine Held.ready (rs := [6]) (by kernel_rfl) (by simp) ?_; refine Held.Ready.last rfl (fun K hK => ?_); go_simp; refine hK.out _ _ ?_; clear hK K)
    refine Held.done (by kernel_rfl) ?_ _
    have hlt1 := (Array.getElem?_eq_some_iff.1 HN.out.2.2.2).1
    have ho6 := ((HO.out.more (Below.refl _ _).drew).more hb5).more hb6
    have hn7 := hn6.sig Y
    have HOF := Lib.hid (((((ho6.set (T := w.heap.size) (i := 2) (u := .string Y) (by omega)).set (T := w.heap.size + 1 + 1) (i := 0) (u := .string ten) hRlt).set (T := w.heap.size + 1 + 1) (i := 1) (u := .slice a9 n9 c9) hRlt).set (T := w.heap.size + 1 + 1) (i := 2) (u := .string Y) hRlt).base (B' := w.heap.size) (by omega))
    obtain ⟨s0, s1, s2, _⟩ := cells3 hn7.2.1
    obtain ⟨r0, r1, r2, f0, f1, f2⟩ := cells3 hn7.2.2.2
    have hres := set3_box hn7.2.2.2 (.string ten) (.slice a9 n9 c9) (.string Y)
    have hbl := set3_below (T := w.heap.size + 1 + 1) (a := .string ten) (b := .slice a9 n9 c9) (c := .string Y) hn7.1 (by omega)
    unfold set3 at hres hbl
    obtain ⟨t0, t1, t2, _⟩ := cells3 hres
    clear hres hn7 hn6 hn5 ho6 hHeld hb5 hb6 e2 g2
    go_wp2
    refine bodyPost_ret (v := .agg #[.string ten, .slice a9 n9 c9, .string Y]) (by simp [results, Tryd.results16, go_sem, t0, t1, t2]) rfl ⟨⟨_, rfl, HOF.out⟩, hbl⟩
end Go.Proofs.YthopegokjbibmaaDoor.Mac

/- The document's own answer to chapter 7: what its Check tells; of memory that was there nothing turns. -/
namespace Go.Proofs.YthopegokjbibmaaDoor.Mac
open Go.RowKit Go.Proofs.YthopegokjbibmaaDoor.Sha
open Go.Proofs.YthopegokjbibmaaDoor.Boxes (set3 set3_box set3_below cells3 keep)

/-- What the document's Check has laid: the token, and one that is narrowed. -/
def Rc (w : World) (T : Nat) (ten sig : ByteArray) (v u : Value) (X : ByteArray) (wr : World) : Prop :=
  Below w.heap.size w wr ∧ wr.heap[w.heap.size]? = some (.cells #[.string ten, v, .string sig] 31) ∧ wr.heap[T]? = some (.cells #[.string ten, u, .string X] 31)
theorem Rc.more {w wr w' : World} {T : Nat} {ten sig X : ByteArray} {v u : Value} (h : Rc w T ten sig v u X wr) (hb : Below wr.heap.size wr w') : Rc w T ten sig v u X w' :=
  ⟨h.1.trans (hb.mono h.1.size), keep h.2.1 hb, keep h.2.2 hb⟩
theorem Rc.set {w wr : World} {T : Nat} {ten sig X : ByteArray} {v u : Value} (h : Rc w T ten sig v u X wr) (hT : w.heap.size < T) (u' : Value) (X' : ByteArray) : Rc w T ten sig v u' X' (set3 T (.string ten) u' (.string X') wr) :=
  ⟨set3_below h.1 (by omega), set_else (set_else (set_else h.2.1 (by omega)) (by omega)) (by omega), set3_box h.2.2 _ _ _⟩
theorem fair_take {l : List Cav} (h : ∀ c ∈ l, Fair c) (k : Nat) : ∀ c ∈ l.take k, Fair c := fun c hc => h c (List.mem_of_mem_take hc)
set_option maxHeartbeats 4000000 in
set_option maxRecDepth 100000 in
theorem rcheck_any (key ten sig : ByteArray) (v : Value) (ls : List Cav) (hk : key.size ≤ 1125899906842624) (ht : ten.size ≤ 1125899906842624) (w : World) (hv : Row w v ls) :
    Calls Tryd.prog 21 #[.string key, .agg #[.string ten, v, .string sig]] w fun e w' => e = .returned (.bool (checkL key.data.toList ten.data.toList ls sig.data.toList)) ∧ Below w.heap.size w w' := by
  obtain ⟨a, cap, rfl, _, _⟩ := hv.slice
  have hb0 : Below w.heap.size w (w.alloc (.cells #[.string ten, .slice a ls.length cap, .string sig] 31)) := (Below.refl _ _).alloc (Nat.le_refl _) _
  have hh0 := heap_alloc_new w (.cells #[.string ten, .slice a ls.length cap, .string sig] 31)
  obtain ⟨c0, c1, c2, _⟩ := cells3 hh0
  obtain ⟨m, hm⟩ : ∃ m, mayL ls = m := ⟨_, rfl⟩
  have HM : Hid (∀ w', Below w.heap.size w w' → Calls Tryd.prog 40 #[.slice a ls.length cap] w' fun e w'' => e = .returned (.bool m) ∧ w' = w'') := Lib.hid (fun w' h => by rw [← hm]; exact rknown_any _ ls w' (hv.below h))
  cases m with
  | false =>
    have HE : Hid (checkL key.data.toList ten.data.toList ls sig.data.toList = false) := Lib.hid (by unfold checkL; rw [hm]; rfl)
    clear hv hm
    go_enter Tryd.func21, Tryd.ntmps21
    go_wp2_with fail
    with_reducible refine (HM.out _ hb0).mono ?_
    rintro e w1 ⟨rfl, rfl⟩
    go_wp2
    go_ret
    exact ⟨by rw [HE.out]; rfl, hb0⟩
  | true =>
    obtain ⟨h8, _⟩ := may_len hm
    obtain ⟨n, hn⟩ : ∃ n, ls.length = n := ⟨_, rfl⟩
    have HN := Lib.hid hn
    have HV := Lib.hid hv
    have HF := Lib.hid hv.fair
    obtain ⟨s0, hs0⟩ : ∃ s, signL key.data.toList ten.data.toList = s := ⟨_, rfl⟩
    obtain ⟨S0, hS0⟩ : ∃ S, str s0 = S := ⟨_, rfl⟩
    have hs0l : s0.length = 32 := by rw [← hs0]; exact signL_len _ _
    have HNew : Hid (∀ w', Calls Tryd.prog 19 #[.string key, .string ten] w' fun e w'' => e = .returned (.agg #[.string ten, .slice none 0 0, .string S0]) ∧ Below w'.heap.size w' w'') := Lib.hid fun w' => by rw [← hS0, ← hs0]; exact rnew_any key ten hk ht w'
    have HE : Hid (∀ X : ByteArray, X = str (chainL s0 ls) → checkL key.data.toList ten.data.toList ls sig.data.toList = (X.toList == sig.toList)) := Lib.hid (fun X hX => by
      unfold checkL
      rw [hm, hs0, hX, Bool.true_and, Lib.toList_data, Lib.toList_data, str_toList]
      rw [Bool.eq_iff_iff]
      simp)
    have HS0 := Lib.hid hS0
    have HL0 := Lib.hid hs0l
    rw [hn] at HM hb0 hh0 c0 c1 c2 HV h8 ⊢
    clear hv hm hs0 hS0 hs0l hn
    go_enter Tryd.func21, Tryd.ntmps21
    go_wp2_with fail
    with_reducible refine (HM.out _ hb0).mono ?_
    rintro e w1 ⟨rfl, rfl⟩
    go_wp2_with fail
    with_reducible refine (HNew.out _).mono ?_
    rintro e w1 ⟨rfl, b1⟩
    have hb1 := hb0.trans (b1.mono hb0.size)
    have bA : Below w1.heap.size w1 (w1.alloc (.cells #[.string ten, .slice none 0 0, .string S0] 31)) := (Below.refl _ _).alloc (Nat.le_refl _) _
    have h5 := heap_alloc_new w1 (.cells #[.string ten, .slice none 0 0, .string S0] 31)
    have hT : w.heap.size < w1.heap.size := by have := b1.size; simp at this; omega
    have HC : Hid (Rc w w1.heap.size ten sig (.slice a n cap) (.slice none 0 0) S0 (w1.alloc (.cells #[.string ten, .slice none 0 0, .string S0] 31))) := Lib.hid ⟨hb1.trans (bA.mono hb1.size), keep (keep hh0 b1) bA, h5⟩
    clear hb0 hh0 c0 c1 c2 b1 hb1 bA h5 HM HNew
    go_wp2_with fail
    obtain ⟨U, hU⟩ : ∃ U, U = w1.alloc (.cells #[.string ten, .slice none 0 0, .string S0] 31) := ⟨_, rfl⟩
    obtain ⟨T, hT'⟩ : ∃ T, T = w1.heap.size := ⟨_, rfl⟩
    rw [← hU] at HC ⊢
    rw [← hT'] at HC hT ⊢
    clear hU hT'
    go_loopw [6] (fun i wr => ∃ (k an ac : Nat) (aa : Option Addr) (X : ByteArray), k ≤ n ∧ i = .int .i64 k ∧ X = str (chainL s0 (ls.take k)) ∧ Row wr (.slice aa an ac) (ls.take k) ∧ Rc w T ten sig (.slice a n cap) (.slice aa an ac) X wr) (fun i _ => n - (intOf i).toNat)
    case atStart => exact ⟨0, 0, 0, none, S0, Nat.zero_le _, rfl, by rw [List.take_zero]; exact HS0.out.symm, .inl ⟨rfl, _, _, rfl, Nat.zero_le _⟩, HC.out⟩
    case round =>
      obtain ⟨k, an, ac, aa, X, hk, rfl, hX, hrow, hC⟩ := hrel
      have HR := Lib.hid hrow
      have HCk := Lib.hid hC
      obtain ⟨x0, x1, x2, _⟩ := cells3 hC.2.1
      obtain ⟨y0, y1, y2, _⟩ := cells3 hC.2.2
      have HX := Lib.hid hX
      clear hrow hX HC
      by_cases hlt : k < n
      · have hltz : (k : Int) < (n : Int) := by omega
        have hltc : k < ls.length := by have := HN.out; omega
        obtain ⟨g, o, rfl, hg, hcell⟩ := HV.out.cells hltc
        obtain ⟨x, hx⟩ : ∃ x, ls[k]? = some x := ⟨_, List.getElem?_eq_getElem hltc⟩
        have HN1 : Hid (ls.take (k + 1) = ls.take k ++ [x]) := Lib.hid (by rw [List.take_add_one, hx]; rfl)
        have HFx := Lib.hid (hcell k x hx).1
        have HK : Hid (∀ x', Below w.heap.size w x' → x'.cell? ⟨g, o + k * 2, none⟩ = some (.int .i64 x.1) ∧ x'.cell? ⟨g, o + k * 2 + 1, none⟩ = some (.int .u64 (x.2 : Int))) := Lib.hid fun x' h => (hcell.below hg h k x hx).2
        have hXz : X.size ≤ 1125899906842624 := by rw [HX.out, str_size, chainL_len HL0.out]; omega
        have HNar := Lib.hid (rnarrow_any ten X (.slice aa an ac) (ls.take k) x HFx.out hXz wr.drew (HR.out.below (Below.refl _ _).drew) (by rw [List.length_take]; omega))
        have HXn : Hid (str (signL X.data.toList (putC x)) = str (chainL s0 (ls.take (k + 1)))) := Lib.hid (by rw [HN1.out, chainL_snoc, HX.out, str_toList])
        obtain ⟨x1', x2'⟩ := x
        obtain ⟨Y, hY⟩ : ∃ Y, str (signL X.data.toList (putC (x1', x2'))) = Y := ⟨_, rfl⟩
        rw [hY] at HNar HXn
        unfold val at HNar
        simp only at HK HNar
        have HD := Lib.hid (HCk.out.more (Below.refl _ _).drew)
        clear hx hcell hC hY hXz
        go_wp2_with fail
        refine Held.start (m := 7) (S := fun x => (x.cell? ⟨w.heap.size, 1, none⟩ = some (.slice (some ⟨g, o, none⟩) n cap) ∧ x.cell? ⟨g, o + k * 2, none⟩ = some (.int .i64 x1') ∧ x.cell? ⟨g, o + k * 2 + 1, none⟩ = some (.int .u64 (x2' : Int))) ∧ x.cell? ⟨T, 0, none⟩ = some (.string ten) ∧ x.cell? ⟨T, 1, none⟩ = some (.slice aa an ac) ∧ x.cell? ⟨T, 2, none⟩ = some (.string X)) (by kernel_rfl) ⟨⟨(cells3 HD.out.2.1).2.1, HK.out _ HD.out.1⟩, (cells3 HD.out.2.2).1, (cells3 HD.out.2.2).2.1, (cells3 HD.out.2.2).2.2.1⟩ (fun hHeld => ?_)
        (refine Held.take (i := 0) (v := ?_) rfl (by kernel_rfl) (by kernel_rfl) (by kernel_rfl) (by kernel_rfl) (by kernel_rfl) (fun _ _ _ h => h) (Or.inl ⟨by rfl, ?_⟩) hHeld ?_; rotate_left; focus (intro w hSw; (try dsimp only at hSw); go_simp; try with_reducible rfl))
        (refine Held.take (i := 1) (v := ?_) rfl (by kernel_rfl) (by kernel_rfl) (by kernel_rfl) (by kernel_rfl) (by kernel_rfl) (fun _ _ _ h => h) (Or.inl ⟨by rfl, ?_⟩) hHeld ?_; rotate_left; focus (intro w hSw; (try dsimp only at hSw); go_simp; try with_reducible rfl))
        (refine Held.take (i := 2) (v := ?_) rfl (by kernel_rfl) (by kernel_rfl) (by kernel_rfl) (by kernel_rfl) (by kernel_rfl) (fun _ _ _ h => h) (Or.inl ⟨by rfl, ?_⟩) hHeld ?_; rotate_left; focus (intro w hSw; (try dsimp only at hSw); go_simp; try with_reducible rfl))
        (refine Held.take (i := 3) (v := ?_) rfl (by kernel_rfl) (by kernel_rfl) (by kernel_rfl) (by kernel_rfl) (by kernel_rfl) (fun _ _ _ h => h) (Or.inl ⟨by rfl, ?_⟩) hHeld ?_; rotate_left; focus (intro w hSw; (try dsimp only at hSw); go_simp; try with_reducible rfl))
        (refine Held.take (i := 4) (v := ?_) rfl (by kernel_rfl) (by kernel_rfl) (by kernel_rfl) (by kernel_rfl) (by kernel_rfl) (fun _ _ _ h => h) (Or.inl ⟨by rfl, ?_⟩) hHeld ?_; rotate_left; focus (intro w hSw; (try dsimp only at hSw); go_simp; try with_reducible rfl))
        (refine Held.take (i := 5) (v := ?_) rfl (by kernel_rfl) (by kernel_rfl) (by kernel_rfl) (by kernel_rfl) (by kernel_rfl) (fun _ _ _ h => h) (Or.inl ⟨by rfl, ?_⟩) hHeld ?_; rotate_left; focus (intro w hSw; (try dsimp only at hSw); go_simp; try with_reducible rfl))
        (refine Held.ready (rs := [6]) (by kernel_rfl) (by simp) ?_; refine Held.Ready.cons rfl (fun K hK => ?_) Held.Ready.nil; go_simp; go_at_call 16; (with_reducible refine HNar.out.mono ?_); rintro e w6 ⟨⟨v6, rfl, hown6⟩, hb6⟩; have hc6 := HD.out.more hb6; have hrow6 := hown6.row (ls := ls.take k ++ [(x1', x2')]) (by rw [← HN1.out]; exact fair_take HF.out _); obtain ⟨a6, n6, c6, rfl, h6⟩ := hown6.shape; clear h6; obtain ⟨z0, z1, z2, f0, f1, f2⟩ := cells3 hc6.2.2; refine hK.out _ _ ⟨⟨(cells3 hc6.2.1).2.1, HK.out _ hc6.1⟩, z0, z1, z2⟩ (fun hHeld => ?_); clear hK K)
        (refine Held.ready (rs := [7]) (by kernel_rfl) (by simp) ?_; refine Held.Ready.last rfl (fun K hK => ?_); go_simp; refine hK.out _ _ ?_; clear hK K)
        refine Held.done (by kernel_rfl) ?_ _
        have HC7 := Lib.hid (hc6.set hT (.slice a6 n6 c6) Y)
        have hown7 := ((hown6.set (T := T) (i := 0) (u := .string ten) (Array.getElem?_eq_some_iff.1 HD.out.2.2).1).set (T := T) (i := 1) (u := .slice a6 n6 c6) (Array.getElem?_eq_some_iff.1 HD.out.2.2).1).set (T := T) (i := 2) (u := .string Y) (Array.getElem?_eq_some_iff.1 HD.out.2.2).1
        have HR7 := Lib.hid (hown7.row (by rw [← HN1.out]; exact fair_take HF.out _))
        unfold set3 at HC7
        clear hown6 hown7 hrow6 hc6 hb6 hHeld z0 z1 z2 f0 f1 f2 HNar x0 x1 x2 y0 y1 y2
        go_wp2
        go_roundw
        case rel => exact ⟨k + 1, n6, c6, a6, Y, by omega, by go_num, HXn.out, by rw [HN1.out]; exact HR7.out, HC7.out⟩
        case measure => simp [intOf]; omega
      · have hltz : ¬ (k : Int) < (n : Int) := by omega
        have HXf : Hid (X = str (chainL s0 ls)) := Lib.hid (by rw [HX.out, List.take_of_length_le (by have := HN.out; omega)])
        go_wp2
        go_ret
        exact ⟨by rw [HE.out X HXf.out]; rfl, hC.1⟩
end Go.Proofs.YthopegokjbibmaaDoor.Mac

/- The document's own answer to chapter 7: what its Put tells; of memory that was there nothing turns. -/
namespace Go.Proofs.YthopegokjbibmaaDoor.Mac
open Go.RowKit Go.Proofs.YthopegokjbibmaaDoor.Sha
open Go.Proofs.YthopegokjbibmaaDoor.Boxes (set3 set3_box set3_below cells3 keep)

theorem may_len8 {ls : List Cav} (h : mayL ls = true) : ls.length ≤ 8 ∧ True := by
  unfold mayL at h
  rw [Bool.and_eq_true, decide_eq_true_eq] at h
  exact ⟨h.1, trivial⟩
set_option maxHeartbeats 4000000 in
set_option maxRecDepth 100000 in
theorem rputT_any (ten : ByteArray) (v : Value) (ls : List Cav) (sig : ByteArray) (hten : ten.size ≤ 4611686018427387904) (w : World) (hv : Row w v ls) :
    Calls Tryd.prog 25 #[.agg #[.string ten, v, .string sig]] w fun e w' => e = .returned (.string (str (putT ten.data.toList ls sig.data.toList))) ∧ Below w.heap.size w w' := by
  obtain ⟨a, cap, rfl, hcap, hm⟩ := hv.slice
  have hlen := hv.len
  have hb0 : Below w.heap.size w (w.alloc (.cells #[.string ten, .slice a ls.length cap, .string sig] 31)) := (Below.refl _ _).alloc (Nat.le_refl _) _
  have hh0 := heap_alloc_new w (.cells #[.string ten, .slice a ls.length cap, .string sig] 31)
  obtain ⟨q, hq⟩ : ∃ q, Word.right ten.data.toList = q := ⟨_, rfl⟩
  obtain ⟨m, hmm⟩ : ∃ m, mayL ls = m := ⟨_, rfl⟩
  have HW : Hid (∀ w, Calls Tryd.prog 45 #[.string ten] w fun e w' => e = .returned (.bool q) ∧ Below w.heap.size w w') := Lib.hid (by rw [← hq]; exact Word.refRight_any ten hten)
  have HM : Hid (∀ w', Below w.heap.size w w' → Calls Tryd.prog 40 #[.slice a ls.length cap] w' fun e w'' => e = .returned (.bool m) ∧ w' = w'') := Lib.hid (fun w' h => by rw [← hmm]; exact rknown_any _ ls w' (hv.below h))
  have hlt : w.heap.size < (w.alloc (.cells #[.string ten, .slice a ls.length cap, .string sig] 31)).heap.size := by simp
  have HForm : Hid (formL ten.data.toList ls sig.data.toList = (q && (m && decide (sig.size = 32)))) := Lib.hid (by unfold formL; rw [hq, hmm, size_list])
  obtain ⟨c0, c1, c2, _⟩ := cells3 hh0
  cases q with
  | false =>
    have HE : Hid (putT ten.data.toList ls sig.data.toList = []) := Lib.hid (by unfold putT; rw [HForm.out]; rfl)
    clear hq hmm hv
    go_enter Tryd.func25, Tryd.ntmps25
    go_wp2_with fail
    with_reducible refine (HW.out _).mono ?_
    rintro e w1 ⟨rfl, b1⟩
    go_wp2
    go_ret
    exact ⟨by rw [HE.out]; rfl, hb0.trans (b1.mono hb0.size)⟩
  | true =>
    cases m with
    | false =>
      have HE : Hid (putT ten.data.toList ls sig.data.toList = []) := Lib.hid (by unfold putT; rw [HForm.out]; rfl)
      clear hq hmm hv
      go_enter Tryd.func25, Tryd.ntmps25
      go_wp2_with fail
      with_reducible refine (HW.out _).mono ?_
      rintro e w1 ⟨rfl, b1⟩
      have k1 := (b1.cell (p := ⟨w.heap.size, 1, none⟩) hlt).trans c1
      have b1' := hb0.trans (b1.mono hb0.size)
      go_wp2_with fail
      with_reducible refine (HM.out _ b1').mono ?_
      rintro e w2 ⟨rfl, rfl⟩
      go_wp2
      go_ret
      exact ⟨by rw [HE.out]; rfl, b1'⟩
    | true =>
      by_cases hs32 : sig.size = 32
      · have h32z : ((sig.size : Int) != 32) = false := by simp; omega
        obtain ⟨h8, _⟩ := may_len8 hmm
        have hq1 : formL ten.data.toList ls sig.data.toList = true := by rw [HForm.out, decide_eq_true hs32]; rfl
        have ht : ten.size ≤ 32 := by rw [← size_list]; exact (Word.right_free hq).2
        have HE : Hid (putT ten.data.toList ls sig.data.toList = (Wire.putL ten.data.toList.length ++ ten.data.toList) ++ Wire.putL ls.length ++ bodyL ls ++ sig.data.toList) := Lib.hid (by unfold putT; rw [if_pos hq1])
        have hfair := hv.fair
        have HFair := Lib.hid hfair
        have HV := Lib.hid hv
        clear hq hq1 hmm hv
        have P1 : ∀ w, Calls Tryd.prog 46 #[.string ten] w fun e w' => e = .returned (.string (Wire.str (Wire.putL ten.size) ++ ten)) ∧ Below w.heap.size w w' := Wire.refPutText_any ten (by omega)
        have P2 : ∀ w, Calls Tryd.prog 47 #[.int .u64 (ls.length : Int)] w fun e w' => e = .returned (.string (Wire.str (Wire.putL ls.length))) ∧ Below w.heap.size w w' := Wire.refPut_any ls.length (by omega)
        have z1 : (Wire.str (Wire.putL ten.size) ++ ten).size ≤ 1125899906842634 := by rw [ByteArray.size_append, Wire.str_size]; have := Wire.putL_ten (u := ten.size) (by omega); omega
        have z2 : (Wire.str (Wire.putL ls.length)).size ≤ 10 := by rw [Wire.str_size]; exact Wire.putL_ten (by omega)
        have HG : Hid (Wire.str (Wire.putL ten.size) ++ ten ++ Wire.str (Wire.putL ls.length) = str ((Wire.putL ten.data.toList.length ++ ten.data.toList) ++ Wire.putL ls.length)) := Lib.hid (by
          show (str _ ++ ten ++ str _ : ByteArray) = _
          rw [glue_of, glue, size_list])
        generalize Wire.str (Wire.putL ten.size) ++ ten = A at P1 z1 HG
        generalize Wire.str (Wire.putL ls.length) = B at P2 z2 HG
        have HP1 := Lib.hid P1
        have HP2 := Lib.hid P2
        clear P1 P2 hfair
        go_enter Tryd.func25, Tryd.ntmps25
        go_wp2_with fail
        with_reducible refine (HW.out _).mono ?_
        rintro e w1 ⟨rfl, b1⟩
        have k1 := (b1.cell (p := ⟨w.heap.size, 1, none⟩) hlt).trans c1
        have k2 := (b1.cell (p := ⟨w.heap.size, 2, none⟩) hlt).trans c2
        go_wp2_with fail
        with_reducible refine (HM.out _ (hb0.trans (b1.mono hb0.size))).mono ?_
        rintro e w2 ⟨rfl, rfl⟩
        clear k1 k2 hlt
        have hh1 := keep hh0 b1
        obtain ⟨d0, d1, d2, _⟩ := cells3 hh1
        have hlt := (Array.getElem?_eq_some_iff.1 hh1).1
        have b1' := hb0.trans (b1.mono hb0.size)
        clear HW HM HForm hb0 hh0 c0 c1 c2 b1
        go_wp2
        have k0 := Quiet.cell (a := ⟨w.heap.size, 0, none⟩) hlt d0
        have k1 := Quiet.cell (a := ⟨w.heap.size, 1, none⟩) hlt d1
        clear d0 d1 d2
        refine Quiet.region (by kernel_rfl) (by kernel_rfl) ?_
        repeat (go_big_quiet_step (first | (go_at_call 46; (with_reducible exact Quiet.calls (HP1.out _))) | (go_at_call 47; (with_reducible exact Quiet.calls (HP2.out _)))))
        refine wpQuiet_nil ?_
        rintro _ ⟨pq, rfl⟩
        have hq := pq.below
        generalize pq.world = wq at hq ⊢
        have hh2 := keep hh1 hq
        have b2 := b1'.trans (hq.mono b1'.size)
        obtain ⟨d0, d1, d2, _⟩ := cells3 hh2
        have HV2 := Lib.hid (HV.out.below b2)
        have zAB : (A ++ B).size ≤ 1125899906842644 := by rw [ByteArray.size_append]; omega
        clear k0 k1 hq b1' hh1 hlt HP1 HP2 z1 z2
        generalize A ++ B = C at HG zAB
        go_wp2
        go_loopw [3, 4] (fun t i wr => ∃ (k : Nat) (T : ByteArray), k ≤ ls.length ∧ i = .int .i64 k ∧ t = .string T ∧ T = C ++ str (bodyL (ls.take k)) ∧ Below wq.heap.size wq wr) (fun _ i _ => ls.length - (intOf i).toNat)
        case atStart => exact ⟨0, C, Nat.zero_le _, rfl, rfl, by rw [show str (bodyL (ls.take 0)) = ByteArray.empty from rfl, ByteArray.append_empty], Below.refl _ _⟩
        case round =>
          obtain ⟨k, T, hk, rfl, rfl, hT, hb⟩ := hrel
          have HT := Lib.hid hT
          obtain ⟨_, y1, y2, _⟩ := cells3 (keep hh2 hb)
          have zT : T.size ≤ 1125899906843000 := by
            rw [hT, ByteArray.size_append, str_size]
            have := bodyL_len (cs := ls.take k) (fun c hc => HFair.out c (List.mem_of_mem_take hc))
            rw [List.length_take] at this
            omega
          clear hT
          by_cases hlt : k < ls.length
          · obtain ⟨g, o, rfl, hg, hcell⟩ := HV2.out.cells hlt
            obtain ⟨x, hx⟩ : ∃ x, ls[k]? = some x := ⟨_, List.getElem?_eq_getElem hlt⟩
            obtain ⟨hfx, hc1, hc2⟩ := hcell.below hg hb k x hx
            have hst := Lib.hid (rput_any x hfx.2.2)
            have HN : Hid (ls.take (k + 1) = ls.take k ++ [x]) := Lib.hid (by rw [List.take_add_one, hx]; rfl)
            have zx : (str (putC x)).size ≤ 20 := by rw [str_size]; exact putC_len hfx.2.2
            clear hx hcell hfx
            have hltz : (k : Int) < (ls.length : Int) := by omega
            obtain ⟨x1, x2⟩ := x
            unfold val at hst
            obtain ⟨X, hX⟩ : ∃ X, str (putC (x1, x2)) = X := ⟨_, rfl⟩
            have HX := Lib.hid hX
            rw [hX] at hst zx
            clear hX
            go_wp2_with fail
            with_reducible refine (hst.out _).mono ?_
            rintro e w1 ⟨rfl, b1⟩
            go_wp2
            go_roundw
            case rel => exact ⟨k + 1, _, by omega, by go_num, rfl, by rw [HN.out, bodyL_snoc, HT.out, ← HX.out, ← glue, ByteArray.append_assoc], hb.trans (b1.mono hb.size)⟩
            case measure => simp [intOf]; omega
          · have hltz : ¬ (k : Int) < (ls.length : Int) := by omega
            have d2' := (hb.cell (p := ⟨w.heap.size, 2, none⟩) (Array.getElem?_eq_some_iff.1 hh2).1).trans d2
            go_wp2
            go_ret
            refine ⟨?_, b2.trans (hb.mono b2.size)⟩
            rw [HE.out, HT.out, HG.out, List.take_of_length_le (by omega)]
            have : str (bodyL ls) ++ sig = str (bodyL ls ++ sig.data.toList) := glue_of _ _
            rw [ByteArray.append_assoc, this, glue]
            simp
      · have h32z : ((sig.size : Int) != 32) = true := by rw [bne_iff_ne]; omega
        have HE : Hid (putT ten.data.toList ls sig.data.toList = []) := Lib.hid (by unfold putT; rw [HForm.out, decide_eq_false hs32]; rfl)
        clear hq hmm hv
        go_enter Tryd.func25, Tryd.ntmps25
        go_wp2_with fail
        with_reducible refine (HW.out _).mono ?_
        rintro e w1 ⟨rfl, b1⟩
        have k1 := (b1.cell (p := ⟨w.heap.size, 1, none⟩) hlt).trans c1
        have k2 := (b1.cell (p := ⟨w.heap.size, 2, none⟩) hlt).trans c2
        have b1' := hb0.trans (b1.mono hb0.size)
        go_wp2_with fail
        with_reducible refine (HM.out _ b1').mono ?_
        rintro e w2 ⟨rfl, rfl⟩
        go_wp2
        go_ret
        exact ⟨by rw [HE.out]; rfl, b1'⟩
end Go.Proofs.YthopegokjbibmaaDoor.Mac

/- What the document's own Get of tokens tells of every text and place; of memory that was there nothing turns. -/
namespace Go.Proofs.YthopegokjbibmaaDoor.Mac
open Go.RowKit Go.Proofs.YthopegokjbibmaaDoor.Sha
open Go.Proofs.YthopegokjbibmaaDoor.Boxes (set3 set3_box set3_below cells3 keep)

/-- What the document's Get has laid: room for the answer, and the token so far. -/
def Rg (w : World) (ten : ByteArray) (u : Value) (X : ByteArray) (wr : World) : Prop :=
  Below w.heap.size w wr ∧ wr.heap[w.heap.size]? = some (.cells #[.string ⟨#[]⟩, .slice none 0 0, .string ⟨#[]⟩] 31) ∧ wr.heap[w.heap.size + 1]? = some (.cells #[.string ten, u, .string X] 31)
theorem Rg.start (w : World) (ten : ByteArray) : Rg w ten (.slice none 0 0) ⟨#[]⟩ ((w.alloc (.cells #[.string ⟨#[]⟩, .slice none 0 0, .string ⟨#[]⟩] 31)).alloc (.cells #[.string ten, .slice none 0 0, .string ⟨#[]⟩] 31)) := by
  refine ⟨((Below.refl _ _).alloc (Nat.le_refl _) _).alloc (by simp) _, ?_, ?_⟩
  · rw [heap_alloc_old _ _ (by simp)]
    exact heap_alloc_new _ _
  · have := heap_alloc_new (w.alloc (.cells #[.string ⟨#[]⟩, .slice none 0 0, .string ⟨#[]⟩] 31)) (.cells #[.string ten, .slice none 0 0, .string ⟨#[]⟩] 31)
    rwa [World.size_alloc] at this
theorem Rg.more {w wr w' : World} {ten X : ByteArray} {u : Value} (h : Rg w ten u X wr) (hb : Below wr.heap.size wr w') : Rg w ten u X w' :=
  ⟨h.1.trans (hb.mono h.1.size), keep h.2.1 hb, keep h.2.2 hb⟩
theorem Rg.grow {w wr w' : World} {ten X : ByteArray} {u : Value} (h : Rg w ten u X wr) (hb : Below (w.heap.size + 1 + 1) wr w') : Rg w ten u X w' :=
  ⟨h.1.trans (hb.mono (by omega)), (hb.block _ (by omega)).trans h.2.1, (hb.block _ (by omega)).trans h.2.2⟩
theorem Rg.row {w wr : World} {ten X : ByteArray} {u : Value} (h : Rg w ten u X wr) (x : Value) : Rg w ten x X (wr.setCell ⟨w.heap.size + 1, 1, none⟩ x) :=
  ⟨h.1.setCell (Nat.le_succ _) _, set_else h.2.1 (by omega), cell_set1 h.2.2⟩
theorem Rg.sig {w wr : World} {ten X : ByteArray} {u : Value} (h : Rg w ten u X wr) (Y : ByteArray) : Rg w ten u Y (wr.setCell ⟨w.heap.size + 1, 2, none⟩ (.string Y)) :=
  ⟨h.1.setCell (Nat.le_succ _) _, set_else h.2.1 (by omega), cell_set2 h.2.2⟩
theorem get_some (s : ByteArray) (hs : s.size ≤ 9223372036854775797) (p : Int) : ∃ (n m : Nat) (b : Bool), ∀ w, Calls Tryd.prog 33 #[.string s, .int .i64 p] w fun e w' => e = .returned (.tuple #[.int .u64 (n : Int), .int .i64 (m : Int), .bool b]) ∧ w = w' := by
  cases h : Wire.getV s.data.toList p with
  | none => exact ⟨0, 0, false, Wire.refGet_no s hs p h⟩
  | some x => exact ⟨x.1, x.2, true, Wire.refGet_yes s hs p x.1 x.2 h⟩
theorem putT_none {ten : List UInt8} {cs : List Cav} {sig : List UInt8} : (putT ten cs sig).isEmpty = !formL ten cs sig := by
  unfold putT
  split
  · rename_i h
    rw [h]
    obtain ⟨_, _, _, h32⟩ := form_parts h
    have : sig ≠ [] := fun h => by rw [h] at h32; simp at h32
    simp [this]
  · rename_i h
    rw [Bool.not_eq_true] at h
    rw [h]
    rfl

/-- What the document's Get tells. -/
def TellsR (s : ByteArray) (r : Option ((Nat × Nat) × List Cav × Nat)) (w : World) (e : Ending) (w' : World) : Prop :=
  (match r with
    | some x => ∃ v, e = .returned (.tuple #[.agg #[.string (s.extract x.1.1 x.1.2), v, .string (s.extract x.2.2 (x.2.2 + 32))], .int .i64 ((x.2.2 + 32 : Nat) : Int), .bool true]) ∧ Row w' v x.2.1
    | none => e = .returned (.tuple #[.agg #[.string ⟨#[]⟩, .slice none 0 0, .string ⟨#[]⟩], .int .i64 0, .bool false])) ∧ Below w.heap.size w w'
set_option maxHeartbeats 4000000 in
set_option maxRecDepth 100000 in
theorem rgetT_any (s : ByteArray) (hs : s.size ≤ 9223372036854775000) (p : Int) (w : World) :
    Calls Tryd.prog 14 #[.string s, .int .i64 p] w (TellsR s (getT s.data.toList p) w) := by
  have hb0 : Below w.heap.size w (w.alloc (.cells #[.string ⟨#[]⟩, .slice none 0 0, .string ⟨#[]⟩] 31)) := (Below.refl _ _).alloc (Nat.le_refl _) _
  have hh0 := heap_alloc_new w (.cells #[.string ⟨#[]⟩, .slice none 0 0, .string ⟨#[]⟩] 31)
  obtain ⟨r, hr⟩ : ∃ r, Wire.textV s.data.toList p 32 = r := ⟨_, rfl⟩
  cases r with
  | none =>
    have HG := Lib.hid (Wire.refText_no s (by omega) p 32 (by omega) hr)
    obtain ⟨n0, m0, q0, hg0⟩ := get_some s (by omega) 0
    have HG0 := Lib.hid hg0
    have HE : Hid (getT s.data.toList p = none) := Lib.hid (by unfold getT; rw [hr])
    clear hr hg0
    go_enter Tryd.func14, Tryd.ntmps14
    go_wp2_with fail
    refine (HG.out _).mono ?_
    rintro e _ ⟨rfl, rfl⟩
    go_wp2_with fail
    refine (HG0.out _).mono ?_
    rintro e _ ⟨rfl, rfl⟩
    go_wp2
    refine bodyPost_ret (v := .tuple #[.agg #[.string ⟨#[]⟩, .slice none 0 0, .string ⟨#[]⟩], .int .i64 0, .bool false]) (by simp [results, Tryd.results14, go_sem]) rfl ?_
    rw [HE.out]
    exact ⟨rfl, hb0⟩
  | some x =>
    obtain ⟨a, b⟩ := x
    obtain ⟨hab, hbs, hab2⟩ := textV_lt hr
    rw [size_list] at hbs
    have HG := Lib.hid (Wire.refText_yes s (by omega) p 32 (by omega) a b hr)
    obtain ⟨r2, hr2⟩ : ∃ r, Wire.getV s.data.toList (b : Int) = r := ⟨_, rfl⟩
    cases r2 with
    | none =>
      have HG0 := Lib.hid (Wire.refGet_no s (by omega) b hr2)
      have HE : Hid (getT s.data.toList p = none) := Lib.hid (by unfold getT getCs; rw [hr]; simp only [hr2])
      clear hr hr2
      go_enter Tryd.func14, Tryd.ntmps14
      go_wp2_with fail
      refine (HG.out _).mono ?_
      rintro e _ ⟨rfl, rfl⟩
      go_wp2_with fail
      refine (HG0.out _).mono ?_
      rintro e _ ⟨rfl, rfl⟩
      go_wp2
      refine bodyPost_ret (v := .tuple #[.agg #[.string ⟨#[]⟩, .slice none 0 0, .string ⟨#[]⟩], .int .i64 0, .bool false]) (by simp [results, Tryd.results14, go_sem]) rfl ?_
      rw [HE.out]
      exact ⟨rfl, hb0⟩
    | some y =>
      obtain ⟨n, q⟩ := y
      have hgl := Wire.getV_lt hr2
      have hn64 : (n : Int) ≤ 18446744073709551615 := by omega
      have hqs : q ≤ s.size := by rw [← size_list]; exact hgl.2.2.1
      have HG0 := Lib.hid (Wire.refGet_yes s (by omega) b n q hr2)
      by_cases h8 : 8 < n
      · have h8z : (8 : Int) < (n : Int) := by omega
        have HE : Hid (getT s.data.toList p = none) := Lib.hid (by unfold getT getCs; rw [hr]; simp only [hr2, if_pos h8])
        clear hr hr2 hgl
        go_enter Tryd.func14, Tryd.ntmps14
        go_wp2_with fail
        refine (HG.out _).mono ?_
        rintro e _ ⟨rfl, rfl⟩
        go_wp2_with fail
        refine (HG0.out _).mono ?_
        rintro e _ ⟨rfl, rfl⟩
        go_wp2
        refine bodyPost_ret (v := .tuple #[.agg #[.string ⟨#[]⟩, .slice none 0 0, .string ⟨#[]⟩], .int .i64 0, .bool false]) (by simp [results, Tryd.results14, go_sem]) rfl ?_
        rw [HE.out]
        exact ⟨rfl, hb0⟩
      · have h8z : ¬ (8 : Int) < (n : Int) := by omega
        have hn8 : (n : Int) ≤ 8 := by omega
        have HT : Hid (∀ cs m, getN s.data.toList n q = some (cs, m) → getT s.data.toList p = if s.size < m + 32 then none else if formL (s.extract a b).data.toList cs (s.extract m (m + 32)).data.toList = true then some ((a, b), cs, m) else none) := Lib.hid fun cs m h => by
          unfold getT getCs
          rw [hr]
          simp only [hr2, if_neg h8, h]
          rw [size_list, extract_list, extract_list, Nat.add_sub_cancel_left]
        have HTn : Hid (getN s.data.toList n q = none → getT s.data.toList p = none) := Lib.hid fun h => by
          unfold getT getCs
          rw [hr]
          simp only [hr2, if_neg h8, h]
        have HQ : Hid (q ≤ s.data.toList.length) := Lib.hid hgl.2.2.1
        have hten : (s.extract a b).size ≤ 32 := by rw [ByteArray.size_extract]; omega
        obtain ⟨ten, hte⟩ : ∃ t, s.extract a b = t := ⟨_, rfl⟩
        rw [hte] at HG HT hten
        have HTe := Lib.hid hte
        have HGY : Hid (∀ (p : Int) (u m : Nat), Wire.getV s.data.toList p = some (u, m) → ∀ w, Calls Tryd.prog 33 #[.string s, .int .i64 p] w fun e w' => e = .returned (.tuple #[.int .u64 (u : Int), .int .i64 (m : Int), .bool true]) ∧ w = w') := Lib.hid fun p u m h w => Wire.refGet_yes s (by omega) p u m h w
        have HGN : Hid (∀ (p : Int), Wire.getV s.data.toList p = none → ∀ w, Calls Tryd.prog 33 #[.string s, .int .i64 p] w fun e w' => e = .returned (.tuple #[.int .u64 0, .int .i64 0, .bool false]) ∧ w = w') := Lib.hid fun p h w => Wire.refGet_no s (by omega) p h w
        have HGS := Lib.hid (get_some s (by omega) 0)
        have HS := Lib.hid (Rg.start w ten)
        clear hr hr2 hgl hte
        go_enter Tryd.func14, Tryd.ntmps14
        go_wp2_with fail
        refine (HG.out _).mono ?_
        rintro e _ ⟨rfl, rfl⟩
        go_wp2_with fail
        refine (HG0.out _).mono ?_
        rintro e _ ⟨rfl, rfl⟩
        go_wp2_with fail
        clear hb0 hh0
        go_loopw [1, 13] (fun at_ i wr => ∃ (k m an ac : Nat) (aa : Option Addr) (ls : List Cav), k ≤ n ∧ i = .int .i64 k ∧ at_ = .int .i64 (m : Int) ∧ getN s.data.toList k q = some (ls, m) ∧ MineR wr (w.heap.size + 1 + 1) (.slice aa an ac) ls ∧ Rg w ten (.slice aa an ac) ⟨#[]⟩ wr) (fun _ i _ => n - (intOf i).toNat)
        case atStart => exact ⟨0, q, 0, 0, none, [], Nat.zero_le _, rfl, rfl, rfl, World.ownsRow_nil _ _ _ _, HS.out⟩
        case round =>
          obtain ⟨k, m, an, ac, aa, ls, hk, rfl, rfl, hN, hown, hR⟩ := hrel
          obtain ⟨hfair, hll, hqm, hms⟩ := getN_lt HQ.out hN
          rw [size_list] at hms
          have HN := Lib.hid hN
          have HO := Lib.hid hown
          have HR := Lib.hid hR
          have HFair := Lib.hid hfair
          clear hN hown hfair HS
          have hhz := hR.2.1
          have hbz := hR.1
          by_cases hlt : k < n
          · have hltz : (k : Int) < (n : Int) := by omega
            obtain ⟨r, hr⟩ : ∃ r, Wire.getV s.data.toList (m : Int) = r := ⟨_, rfl⟩
            have HNo : Hid (getC s.data.toList m = none → getT s.data.toList p = none) := Lib.hid fun h => HTn.out (by
              have hnx : getN s.data.toList (k + 1) q = none := by rw [getN_snoc HN.out, h]
              have := getN_none (n - (k + 1)) hnx
              rwa [show k + 1 + (n - (k + 1)) = n by omega] at this)
            cases r with
            | none =>
              have HE : Hid (getT s.data.toList p = none) := Lib.hid (HNo.out (by unfold getC; rw [hr]))
              have HT1 := Lib.hid (HGN.out m hr)
              obtain ⟨n0, m0, q0, hg0⟩ := HGS.out
              have HT2 := Lib.hid hg0
              clear hr hg0
              go_wp2_with fail
              refine (HT1.out _).mono ?_
              rintro e _ ⟨rfl, rfl⟩
              go_wp2_with fail
              refine (HT2.out _).mono ?_
              rintro e _ ⟨rfl, rfl⟩
              obtain ⟨c0, c1, c2, f0, f1, f2⟩ := cells3 hhz
              have hres := set3_box hhz (.string ⟨#[]⟩) (.slice none 0 0) (.string ⟨#[]⟩)
              have hbl := set3_below (T := w.heap.size) (a := .string ⟨#[]⟩) (b := .slice none 0 0) (c := .string ⟨#[]⟩) hbz (Nat.le_refl _)
              unfold set3 at hres hbl
              obtain ⟨e0, e1, e2, _⟩ := cells3 hres
              clear hres
              go_wp2
              refine bodyPost_ret (v := .tuple #[.agg #[.string ⟨#[]⟩, .slice none 0 0, .string ⟨#[]⟩], .int .i64 0, .bool false]) (by simp [results, Tryd.results14, go_sem, e0, e1, e2]) rfl ?_
              rw [HE.out]
              exact ⟨rfl, hbl⟩
            | some x =>
              obtain ⟨kk, mid⟩ := x
              have HT1 := Lib.hid (HGY.out m kk mid hr)
              obtain ⟨r3, hr3⟩ : ∃ r, Wire.getV s.data.toList (mid : Int) = r := ⟨_, rfl⟩
              cases r3 with
              | none =>
                have HE : Hid (getT s.data.toList p = none) := Lib.hid (HNo.out (by unfold getC; rw [hr]; simp only [hr3]; split <;> rfl))
                have HT2 := Lib.hid (HGN.out mid hr3)
                clear hr hr3
                go_wp2_with fail
                refine (HT1.out _).mono ?_
                rintro e _ ⟨rfl, rfl⟩
                go_wp2_with fail
                refine (HT2.out _).mono ?_
                rintro e _ ⟨rfl, rfl⟩
                obtain ⟨c0, c1, c2, f0, f1, f2⟩ := cells3 hhz
                have hres := set3_box hhz (.string ⟨#[]⟩) (.slice none 0 0) (.string ⟨#[]⟩)
                have hbl := set3_below (T := w.heap.size) (a := .string ⟨#[]⟩) (b := .slice none 0 0) (c := .string ⟨#[]⟩) hbz (Nat.le_refl _)
                unfold set3 at hres hbl
                obtain ⟨e0, e1, e2, _⟩ := cells3 hres
                clear hres
                go_wp2
                refine bodyPost_ret (v := .tuple #[.agg #[.string ⟨#[]⟩, .slice none 0 0, .string ⟨#[]⟩], .int .i64 0, .bool false]) (by simp [results, Tryd.results14, go_sem, e0, e1, e2]) rfl ?_
                rw [HE.out]
                exact ⟨rfl, hbl⟩
              | some y =>
                obtain ⟨nn, en⟩ := y
                have HT2 := Lib.hid (HGY.out mid nn en hr3)
                by_cases h2 : 2 < kk
                · have h2z : (2 : Int) < (kk : Int) := by omega
                  have HE : Hid (getT s.data.toList p = none) := Lib.hid (HNo.out (by unfold getC; rw [hr]; simp only [if_pos h2]))
                  clear hr hr3
                  go_wp2_with fail
                  refine (HT1.out _).mono ?_
                  rintro e _ ⟨rfl, rfl⟩
                  go_wp2_with fail
                  refine (HT2.out _).mono ?_
                  rintro e _ ⟨rfl, rfl⟩
                  obtain ⟨c0, c1, c2, f0, f1, f2⟩ := cells3 hhz
                  have hres := set3_box hhz (.string ⟨#[]⟩) (.slice none 0 0) (.string ⟨#[]⟩)
                  have hbl := set3_below (T := w.heap.size) (a := .string ⟨#[]⟩) (b := .slice none 0 0) (c := .string ⟨#[]⟩) hbz (Nat.le_refl _)
                  unfold set3 at hres hbl
                  obtain ⟨e0, e1, e2, _⟩ := cells3 hres
                  clear hres
                  go_wp2
                  refine bodyPost_ret (v := .tuple #[.agg #[.string ⟨#[]⟩, .slice none 0 0, .string ⟨#[]⟩], .int .i64 0, .bool false]) (by simp [results, Tryd.results14, go_sem, e0, e1, e2]) rfl ?_
                  rw [HE.out]
                  exact ⟨rfl, hbl⟩
                · have h2z : ¬ (2 : Int) < (kk : Int) := by omega
                  have hc : getC s.data.toList m = some (((kk : Int), nn), en) := by unfold getC; rw [hr]; simp only [if_neg h2, hr3]
                  have HFx := Lib.hid (getC_lt hc).1
                  have HN2 : Hid (getN s.data.toList (k + 1) q = some (ls ++ [((kk : Int), nn)], en)) := Lib.hid (by rw [getN_snoc HN.out, hc])
                  have hcv := conv_back kk (by omega)
                  have hrow1 : Row (wr.alloc (.cells #[.int .i64 (kk : Int), .int .u64 (nn : Int)] 41)) (.slice (some ⟨wr.heap.size, 0, none⟩) 1 1) [((kk : Int), nn)] := row_oneR (heap_alloc_new wr _) HFx.out
                  have hsz := (Array.getElem?_eq_some_iff.1 hR.2.2).1
                  obtain ⟨v5, w5, hrun, hown5, hb5⟩ := rappend_row (HO.out.more ((Below.refl _ _).alloc (Nat.le_refl _) (.cells #[.int .i64 (kk : Int), .int .u64 (nn : Int)] 41))) hrow1 (by rw [hll]; simp; omega) (by rw [World.size_alloc]; omega) 29
                  have ht5 := (HR.out.more ((Below.refl _ _).alloc (Nat.le_refl _) (.cells #[.int .i64 (kk : Int), .int .u64 (nn : Int)] 41))).grow hb5
                  obtain ⟨a5, n5, c5, rfl, hn5⟩ := hown5.shape
                  obtain ⟨_, y1, _⟩ := cells3 hR.2.2
                  obtain ⟨_, e1, _, _, g1, _⟩ := cells3 ht5.2.2
                  have HO6 := Lib.hid (hown5.set (T := w.heap.size + 1) (i := 1) (u := .slice a5 n5 c5) (by omega))
                  have HT6 := Lib.hid (ht5.row (.slice a5 n5 c5))
                  clear hr hr3 hc hR hhz hbz hrow1 hn5 hown5 hb5 ht5
                  go_wp2_with fail
                  refine (HT1.out _).mono ?_
                  rintro e _ ⟨rfl, rfl⟩
                  go_wp2_with fail
                  refine (HT2.out _).mono ?_
                  rintro e _ ⟨rfl, rfl⟩
                  go_wp2_with (at_builtin; refine Lib.wpList_append_run_sl _ rfl _ _ _ rfl _ _ rfl rfl hrun ?_)
                  go_roundw
                  case rel => exact ⟨k + 1, en, n5, c5, a5, _, by omega, by go_num, rfl, HN2.out, HO6.out, HT6.out⟩
                  case measure => simp [intOf]; omega
          · have hltz : ¬ (k : Int) < (n : Int) := by omega
            obtain rfl : k = n := by omega
            have HF1 := Lib.hid (HT.out ls m HN.out)
            by_cases hend : s.size < m + 32
            · have hez : (s.size : Int) - (m : Int) < 32 := by omega
              have HE : Hid (getT s.data.toList p = none) := Lib.hid (by rw [HF1.out, if_pos hend])
              obtain ⟨c0, c1, c2, f0, f1, f2⟩ := cells3 hhz
              have hres := set3_box hhz (.string ⟨#[]⟩) (.slice none 0 0) (.string ⟨#[]⟩)
              have hbl := set3_below (T := w.heap.size) (a := .string ⟨#[]⟩) (b := .slice none 0 0) (c := .string ⟨#[]⟩) hbz (Nat.le_refl _)
              unfold set3 at hres hbl
              obtain ⟨e0, e1, e2, _⟩ := cells3 hres
              clear hres
              go_wp2
              refine bodyPost_ret (v := .tuple #[.agg #[.string ⟨#[]⟩, .slice none 0 0, .string ⟨#[]⟩], .int .i64 0, .bool false]) (by simp [results, Tryd.results14, go_sem, e0, e1, e2]) rfl ?_
              rw [HE.out]
              exact ⟨rfl, hbl⟩
            · have hez : ¬ (s.size : Int) - (m : Int) < 32 := by omega
              have hq32 : (m : Int) + 32 ≤ (s.size : Int) := by omega
              obtain ⟨X, hX⟩ : ∃ X, s.extract m (m + 32) = X := ⟨_, rfl⟩
              have HXe := Lib.hid hX
              have hex : s.extract m (m + 32) = X := hX
              have HE : Hid (getT s.data.toList p = if formL ten.data.toList ls X.data.toList = true then some ((a, b), ls, m) else none) := Lib.hid (by rw [HF1.out, if_neg hend, hX])
              have HRX : Hid (Rg w ten (.slice aa an ac) X (wr.setCell ⟨w.heap.size + 1, 2, none⟩ (.string X))) := Lib.hid (HR.out.sig X)
              have HOM := Lib.hid (HO.out.set (T := w.heap.size + 1) (i := 2) (u := .string X) (by omega))
              have HOX := Lib.hid (HOM.out.row HFair.out)
              obtain ⟨y0, y1, y2, i0, i1, i2⟩ := cells3 hR.2.2
              obtain ⟨z0, z1, z2, _⟩ := cells3 HRX.out.2.2
              have HP := Lib.hid (rputT_any ten (.slice aa an ac) ls X (by omega) (wr.setCell ⟨w.heap.size + 1, 2, none⟩ (.string X)) HOX.out)
              have HPe := Lib.hid (putT_none (ten := ten.data.toList) (cs := ls) (sig := X.data.toList))
              obtain ⟨f, hf⟩ : ∃ f, formL ten.data.toList ls X.data.toList = f := ⟨_, rfl⟩
              rw [hf] at HE HPe
              obtain ⟨PT, hPT⟩ : ∃ PT, putT ten.data.toList ls X.data.toList = PT := ⟨_, rfl⟩
              rw [hPT] at HP HPe
              clear hX hf hPT hR hhz hbz HT HTn HGY HGN HGS HF1
              go_wp2_with fail
              refine HP.out.mono ?_
              rintro e w3 ⟨rfl, b3⟩
              have hR3 := HRX.out.more b3
              have HO3 := Lib.hid (HOM.out.more b3)
              obtain ⟨d0, d1, d2, _⟩ := cells3 hR3.2.2
              have hhz := hR3.2.1
              have hbz := hR3.1
              have hem : ((str PT).toList == []) = !f := by
                rw [Lib.toList_data, str_toList, ← HPe.out]
                cases PT <;> rfl
              cases f with
              | true =>
                have hem' : ((str PT).toList == []) = false := hem
                obtain ⟨c0, c1, c2, f0, f1, f2⟩ := cells3 hhz
                have hres := set3_box hhz (.string ten) (.slice aa an ac) (.string X)
                have hbl := set3_below (T := w.heap.size) (a := .string ten) (b := .slice aa an ac) (c := .string X) hbz (Nat.le_refl _)
                have HRow := Lib.hid ((((HO3.out.set (T := w.heap.size) (i := 0) (u := .string ten) (by omega)).set (T := w.heap.size) (i := 1) (u := .slice aa an ac) (by omega)).set (T := w.heap.size) (i := 2) (u := .string X) (by omega)).row HFair.out)
                unfold set3 at hres hbl
                obtain ⟨e0, e1, e2, _⟩ := cells3 hres
                clear hres hem
                go_wp2
                refine bodyPost_ret (v := .tuple #[.agg #[.string ten, .slice aa an ac, .string X], .int .i64 ((m : Int) + 32), .bool true]) (by simp [results, Tryd.results14, go_sem, e0, e1, e2]) rfl ?_
                rw [HE.out, if_pos trivial]
                exact ⟨⟨.slice aa an ac, by simp only [HTe.out, HXe.out, Int.natCast_add]; rfl, HRow.out⟩, hbl⟩
              | false =>
                have hem' : ((str PT).toList == []) = true := hem
                clear hem
                obtain ⟨c0, c1, c2, f0, f1, f2⟩ := cells3 hhz
                have hres := set3_box hhz (.string ⟨#[]⟩) (.slice none 0 0) (.string ⟨#[]⟩)
                have hbl := set3_below (T := w.heap.size) (a := .string ⟨#[]⟩) (b := .slice none 0 0) (c := .string ⟨#[]⟩) hbz (Nat.le_refl _)
                unfold set3 at hres hbl
                obtain ⟨e0, e1, e2, _⟩ := cells3 hres
                clear hres
                go_wp2
                refine bodyPost_ret (v := .tuple #[.agg #[.string ⟨#[]⟩, .slice none 0 0, .string ⟨#[]⟩], .int .i64 0, .bool false]) (by simp [results, Tryd.results14, go_sem, e0, e1, e2]) rfl ?_
                rw [HE.out]
                exact ⟨rfl, hbl⟩
end Go.Proofs.YthopegokjbibmaaDoor.Mac
