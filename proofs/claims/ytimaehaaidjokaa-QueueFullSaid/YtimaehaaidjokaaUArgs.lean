/- Arguments that are queues, entries, numbers (chapter 14): what they hold. -/
import Derived.Test.YtimaehaaidjokaaUIds
import Derived.ProofKit
import Derived.OpenShut
import Derived.SizedLaws
import Derived.Deep.SlicePairs
namespace Go.Proofs.Ytimaehaaidjokaa.Queue
open Go.ChangeShapes Go.WideShapes Go.ChangeAt Go.RowKit

def numOf : Value → Int
  | .int _ n => n
  | _ => 0
theorem num_fair {n p : Int} (h1 : (Lit.int .u64 n).wf = true) (h2 : (Lit.int .i64 p).wf = true) : Fair (n.toNat, p) ∧ ((n.toNat : Nat) : Int) = n := by
  have a := bounds_u64 h1
  have b := bounds_i64 h2
  unfold Fair
  simp only
  omega
section
variable {H : Type} {E : TypeId × Value → H} {P : Program}
theorem queue_of {t e : TypeId} {f0 f1 : Field} (ht : P.underlying t = some (.slice e)) (he : P.underlying e = some (.struct #[f0, f1])) (ce : P.cellsOf e = 2) (o0 : f0.offset = 0) (o1 : f1.offset = 1)
    (c0 : P.cellsOf f0.type = 1) (c1 : P.cellsOf f1.type = 1) (s0 : P.underlying f0.type = some (.int .u64)) (s1 : P.underlying f1.type = some (.int .i64)) (hby : P.bytesOf e = 16) {W : World} {base : Nat} {v : Value} {d : DataW H} {p : List MemPlace}
    {ts : List TypeId} {ds : List (DataW H)} (hsz : (DataW.weightsEach P ts ds).all (· ≤ reachBytes) = true) {j : Nat} (htj : ts[j]? = some t) (hdj : ds[j]? = some d)
    (hval : Value.okWide P W .any base t v) (h : DataW.Trod E P W 0 (fun _ => true) true t v d p) : ∃ ls : List Queue.E, Row W v ls ∧ ls.length ≤ 8796093022207 := by
  obtain ⟨a1, len, cap, rfl⟩ := okWide_slice ht hval
  obtain ⟨fuel, hf⟩ := h
  rcases Deep.open_slice_pairs ht he ce o0 o1 c0 c1 hf with ⟨hcs, _⟩ | ⟨a, len', cap', m, n, V0, V1, D0, D1, P0, P1, hcs, _, hl, hm, hmm, hx, hi⟩
  · simp [Value.cells] at hcs
    obtain ⟨rfl, rfl, rfl⟩ := hcs
    exact ⟨[], .inl ⟨rfl, _, _, rfl, Nat.zero_le _⟩, Nat.zero_le _⟩
  · simp [Value.cells] at hcs
    obtain ⟨rfl, rfl, rfl⟩ := hcs
    simp only [if_true] at hmm
    subst hmm
    simp only [Prod.mk.injEq] at hx
    have hlen : ((List.range len).map fun i => ((numOf (V0 i)).toNat, numOf (V1 i))).length = len := by simp
    refine ⟨(List.range len).map fun i => ((numOf (V0 i)).toNat, numOf (V1 i)), ?_, ?_⟩
    · by_cases hz : len = 0
      · subst hz
        exact .inl ⟨rfl, _, _, rfl, hm⟩
      · have hs : ∀ i, i < m → V0 i = .int .u64 (((numOf (V0 i)).toNat : Nat) : Int) ∧ V1 i = .int .i64 (numOf (V1 i)) ∧ Fair ((numOf (V0 i)).toNat, numOf (V1 i)) := fun i him => by
          obtain ⟨_, _, h3, h4⟩ := hi i him
          obtain ⟨x0, e0, _, w0⟩ := DataW.trod_int s0 h3
          obtain ⟨x1, e1, _, w1⟩ := DataW.trod_int s1 h4
          simp only [List.cons.injEq, and_true] at e0 e1
          obtain ⟨q1, q2⟩ := num_fair w0 w1
          rw [e0, e1]
          simp only [numOf]
          exact ⟨by rw [q2], trivial, q1⟩
        obtain ⟨ab, ao, spot⟩ := a
        have h0 := (hi 0 (by omega)).1
        have hspot : spot = none := by simpa [Addr.add] using World.cell?_spot h0
        subst hspot
        refine .inr ⟨fun hn => by rw [hn] at hlen; simp at hlen; omega, ab, ao, m, by rw [hlen], World.block_lt_of_cell? (a := ⟨ab, ao, none⟩) _ (by simpa [Addr.add] using h0), by rw [hlen]; exact hl, hm, fun k x hk => ?_⟩
        obtain ⟨hk1, rfl⟩ := List.getElem?_eq_some_iff.1 hk
        rw [hlen] at hk1
        obtain ⟨g0, g1, _, _⟩ := hi k (by omega)
        obtain ⟨q0, q1, q2⟩ := hs k (by omega)
        rw [Addr.add_lit] at g0 g1
        simp only [List.getElem_map, List.getElem_range]
        rw [← q0, ← q1]
        exact ⟨q2, g0, by rw [Nat.add_assoc]; exact g1⟩
    · rw [hlen]
      have := sized_slice hsz htj (hx.1 ▸ hdj) ht
      rw [hby] at this
      simp at this
      have hr : reachBytes < 2 ^ 47 := reachBytes_lt
      omega
/-- A slice of numbers of 64 bits, opened. -/
theorem ids_of {t e : TypeId} (ht : P.underlying t = some (.slice e)) (he : P.underlying e = some (.int .u64)) (ce : P.cellsOf e = 1) {W : World} {base : Nat} {v : Value} {d : DataW H} {p : List MemPlace}
    (hval : Value.okWide P W .any base t v) (h : DataW.Trod E P W 0 (fun _ => true) true t v d p) : ∃ ls : List Nat, IRow W v ls := by
  obtain ⟨a1, len, cap, rfl⟩ := okWide_slice ht hval
  obtain ⟨fuel, hf⟩ := h
  rcases Deep.open_slice ht hf with ⟨hcs, hx⟩ | ⟨a, len', cap', m, n, D, Pl, hcs, _, hl, hm, hmm, hx, hi⟩
  · simp [Value.cells] at hcs
    obtain ⟨rfl, rfl, rfl⟩ := hcs
    exact ⟨[], .inl ⟨rfl, _, _, rfl, Nat.zero_le _⟩⟩
  · simp [Value.cells] at hcs
    obtain ⟨rfl, rfl, rfl⟩ := hcs
    simp only [if_true] at hmm
    subst hmm
    rw [ce] at hi
    have each : ∀ i, i < m → ∃ x : Nat, W.cell? (a.add i) = some (.int .u64 (x : Int)) ∧ Word x := fun i him => by
      obtain ⟨cs', h1, h2⟩ := hi i him
      obtain ⟨_, hlen, hcell⟩ := World.cells?_some h1
      match cs', hlen, h2, hcell with
      | [w0], _, h2, hcell =>
        obtain ⟨x0, e0, _, q0⟩ := DataW.trod_int he h2
        simp only [List.cons.injEq, and_true] at e0
        have b := bounds_u64 q0
        have k0 := hcell 0 (by simp)
        rw [Deep.add_add] at k0
        simp only [Nat.mul_one, Nat.add_zero] at k0
        refine ⟨x0.toNat, ?_, by unfold Word; omega⟩
        rw [k0]
        simp only [List.getElem?_cons_zero]
        rw [e0, Int.toNat_of_nonneg b.1]
    obtain ⟨T, hT⟩ := Deep.choose_lt (α := Nat) each
    have hlen : ((List.range len).map T).length = len := by simp
    refine ⟨(List.range len).map T, ?_⟩
    by_cases hz : len = 0
    · subst hz
      exact .inl ⟨rfl, _, _, rfl, hm⟩
    · obtain ⟨ab, ao, spot⟩ := a
      have h0 := (hT 0 (by omega)).1
      have hspot : spot = none := by simpa [Addr.add] using World.cell?_spot h0
      subst hspot
      refine .inr ⟨fun hn => by rw [hn] at hlen; simp at hlen; omega, ab, ao, m, by rw [hlen], World.block_lt_of_cell? (a := ⟨ab, ao, none⟩) _ (by simpa [Addr.add] using h0), by rw [hlen]; exact hl, hm, fun k x hk => ?_⟩
      obtain ⟨hk1, rfl⟩ := List.getElem?_eq_some_iff.1 hk
      rw [hlen] at hk1
      have g0 := hT k (by omega)
      rw [Addr.add_lit] at g0
      simp only [List.getElem_map, List.getElem_range]
      exact ⟨g0.2, g0.1⟩
end
section
variable {H : Type} {E : TypeId × Value → H} {W : World} {base : Nat} {v : Value} {d : DataW H} {p : List MemPlace}
theorem open_queue {ts : List TypeId} {ds : List (DataW H)} (hsz : (DataW.weightsEach Try.prog ts ds).all (· ≤ reachBytes) = true) {j : Nat} (htj : ts[j]? = some 22) (hdj : ds[j]? = some d)
    (hval : Value.okWide Try.prog W .any base 22 v) (h : DataW.Trod E Try.prog W 0 (fun _ => true) true 22 v d p) : ∃ ls : List Queue.E, Row W v ls ∧ ls.length ≤ 8796093022207 :=
  queue_of Try.underlying22 (f0 := (Try.prog.fieldsOf 25)[0]!) (f1 := (Try.prog.fieldsOf 25)[1]!) (by kernel_rfl) (by kernel_rfl) (by kernel_rfl) (by kernel_rfl) (by kernel_rfl) (by kernel_rfl) (by kernel_rfl) (by kernel_rfl) (by kernel_rfl) hsz htj hdj hval h
theorem open_ids (hval : Value.okWide Try.prog W .any base 47 v) (h : DataW.Trod E Try.prog W 0 (fun _ => true) true 47 v d p) : ∃ ls : List Nat, IRow W v ls :=
  ids_of Try.underlying47 Try.underlying23 (by kernel_rfl) hval h
theorem list2 {α : Type} (l : List α) (h : (⟨l⟩ : Array α).size = 2) : ∃ a b, l = [a, b] := by
  match l, h with
  | [a, b], _ => exact ⟨a, b, rfl⟩
theorem under_entry : Try.prog.underlying 25 = some (.struct #[(Try.prog.fieldsOf 25)[0]!, (Try.prog.fieldsOf 25)[1]!]) := by kernel_rfl
theorem cells_entry : Try.prog.cellsOf 25 = 2 := by kernel_rfl
set_option maxRecDepth 100000 in
theorem open_entry (hval : Value.okWide Try.prog W .any base 25 v) (h : DataW.Trod E Try.prog W 0 (fun _ => true) true 25 v d p) : ∃ c : Queue.E, v = val c ∧ Fair c := by
  obtain ⟨cs, rfl, hsize, _⟩ : ∃ cs, v = .agg cs ∧ cs.size = Try.prog.cellsOf 25 ∧ Row.okWide Try.prog W .any base 25 cs := by
    simpa [Value.okWide, under_entry] using hval
  rw [cells_entry] at hsize
  obtain ⟨l⟩ := cs
  obtain ⟨w0, w1, rfl⟩ := list2 l hsize
  obtain ⟨fuel, hf⟩ := h
  obtain ⟨xs, k, _, hx, hl, hlen, hfs⟩ := DataW.trod_struct under_entry hf
  match xs, hlen with
  | [y0, y1], _ =>
    have g0 := hfs 0 (Try.prog.fieldsOf 25)[0]! rfl
    have g1 := hfs 1 (Try.prog.fieldsOf 25)[1]! rfl
    have o0 : ((Try.prog.fieldsOf 25)[0]!).offset = 0 := by kernel_rfl
    have o1 : ((Try.prog.fieldsOf 25)[1]!).offset = 1 := by kernel_rfl
    have t0 : ((Try.prog.fieldsOf 25)[0]!).type = 23 := by kernel_rfl
    have t1 : ((Try.prog.fieldsOf 25)[1]!).type = 3 := by kernel_rfl
    have z3 : Try.prog.cellsOf 3 = 1 := by kernel_rfl
    have z25 : Try.prog.cellsOf 23 = 1 := by kernel_rfl
    rw [o0, t0, z25] at g0
    rw [o1, t1, z3] at g1
    simp [Value.cells] at g0 g1
    obtain ⟨x0, e0, _, v0⟩ := DataW.trod_int Try.underlying23 g0
    obtain ⟨x1, e1, _, v1⟩ := DataW.trod_int Try.underlying3 g1
    simp only [List.cons.injEq, and_true] at e0 e1
    subst e0 e1
    obtain ⟨q1, q2⟩ := num_fair v0 v1
    exact ⟨(x0.toNat, x1), by unfold val; rw [q2], q1⟩
end
end Go.Proofs.Ytimaehaaidjokaa.Queue
