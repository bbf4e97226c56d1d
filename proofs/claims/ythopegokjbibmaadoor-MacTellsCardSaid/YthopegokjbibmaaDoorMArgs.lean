/- Arguments that are caveats, a slice of them, or a token: what they hold. -/
import Derived.Test.YthopegokjbibmaaDoorMRow
import Derived.ProofKit
import Derived.OpenShut
import Derived.SizedLaws
import Derived.Deep.SlicePairs
import Derived.Deep.Strs
namespace Go.Proofs.YthopegokjbibmaaDoor.Mac
open Go.ChangeShapes Go.WideShapes Go.ChangeAt Go.RowKit

def numOf : Value → Int
  | .int _ n => n
  | _ => 0
theorem num_fair {k n : Int} (h1 : (Lit.int .i64 k).wf = true) (h2 : (Lit.int .u64 n).wf = true) : Fair (k, n.toNat) ∧ ((n.toNat : Nat) : Int) = n := by
  have a := bounds_i64 h1
  have b := bounds_u64 h2
  unfold Fair
  simp only
  omega
section
variable {H : Type} {E : TypeId × Value → H} {P : Program}
theorem cavs_of {t e : TypeId} {f0 f1 : Field} (ht : P.underlying t = some (.slice e)) (he : P.underlying e = some (.struct #[f0, f1])) (ce : P.cellsOf e = 2) (o0 : f0.offset = 0) (o1 : f1.offset = 1)
    (c0 : P.cellsOf f0.type = 1) (c1 : P.cellsOf f1.type = 1) (s0 : P.underlying f0.type = some (.int .i64)) (s1 : P.underlying f1.type = some (.int .u64)) {W : World} {n : Nat} {cs : List Value} {x : DataW H × List MemPlace}
    (h : DataW.trod E P W 0 (fun _ => true) true n t cs = some x) : ∃ v ls, cs = [v] ∧ Row W v ls := by
  rcases Deep.open_slice_pairs ht he ce o0 o1 c0 c1 h with ⟨hcs, _⟩ | ⟨a, len, cap, m, n, V0, V1, D0, D1, P0, P1, hcs, _, hl, hm, hmm, hx, hi⟩
  · exact ⟨_, [], hcs, .inl ⟨rfl, _, _, rfl, Nat.zero_le _⟩⟩
  · simp only [if_true] at hmm
    subst hmm
    have hlen : ((List.range len).map fun i => (numOf (V0 i), (numOf (V1 i)).toNat)).length = len := by simp
    refine ⟨_, (List.range len).map fun i => (numOf (V0 i), (numOf (V1 i)).toNat), hcs, ?_⟩
    by_cases hz : len = 0
    · subst hz
      exact .inl ⟨rfl, _, _, rfl, hm⟩
    · have hs : ∀ i, i < m → V0 i = .int .i64 (numOf (V0 i)) ∧ V1 i = .int .u64 (((numOf (V1 i)).toNat : Nat) : Int) ∧ Fair (numOf (V0 i), (numOf (V1 i)).toNat) := fun i him => by
        obtain ⟨_, _, h3, h4⟩ := hi i him
        obtain ⟨x0, e0, _, w0⟩ := DataW.trod_int s0 h3
        obtain ⟨x1, e1, _, w1⟩ := DataW.trod_int s1 h4
        simp only [List.cons.injEq, and_true] at e0 e1
        obtain ⟨q1, q2⟩ := num_fair w0 w1
        rw [e0, e1]
        simp only [numOf]
        exact ⟨trivial, by rw [q2], q1⟩
      obtain ⟨ab, ao, spot⟩ := a
      have h0 := (hi 0 (by omega)).1
      have hspot : spot = none := by simpa [Addr.add] using World.cell?_spot h0
      subst hspot
      refine .inr ⟨fun hn => by rw [hn] at hlen; simp at hlen; omega, ab, ao, m, by rw [hlen], World.block_lt_of_cell? (a := ⟨ab, ao, none⟩) _ (by simpa [Addr.add] using h0), by rw [hlen]; exact hl, hm, fun k x hk => ?_⟩
      obtain ⟨hk1, rfl⟩ := List.getElem?_eq_some_iff.1 hk
      rw [hlen] at hk1
      obtain ⟨g0, g1, _, _⟩ := hi k (by omega)
      obtain ⟨q0, q1, q2⟩ := hs k (by omega)
      rw [Addr.add_lit] at g0 g1
      simp only [List.getElem_map, List.getElem_range]
      rw [← q0, ← q1]
      exact ⟨q2, g0, by rw [Nat.add_assoc]; exact g1⟩
end
section
variable {H : Type} {E : TypeId × Value → H} {W : World} {base : Nat} {v : Value} {d : DataW H} {p : List MemPlace}
theorem open_cavs (hval : Value.okWide Tryd.prog W .any base 22 v) (h : DataW.Trod E Tryd.prog W 0 (fun _ => true) true 22 v d p) : ∃ ls : List Cav, Row W v ls := by
  obtain ⟨a1, len, cap, rfl⟩ := okWide_slice Tryd.underlying22 hval
  obtain ⟨fuel, hf⟩ := h
  obtain ⟨u, ls, hu, hr⟩ := cavs_of Tryd.underlying22 (f0 := (Tryd.prog.fieldsOf 27)[0]!) (f1 := (Tryd.prog.fieldsOf 27)[1]!) (by kernel_rfl) (by kernel_rfl) (by kernel_rfl) (by kernel_rfl) (by kernel_rfl) (by kernel_rfl) (by kernel_rfl) (by kernel_rfl) hf
  simp [Value.cells] at hu
  rw [hu]
  exact ⟨ls, hr⟩
theorem list2 {α : Type} (l : List α) (h : (⟨l⟩ : Array α).size = 2) : ∃ a b, l = [a, b] := by
  match l, h with
  | [a, b], _ => exact ⟨a, b, rfl⟩
theorem list3 {α : Type} (l : List α) (h : (⟨l⟩ : Array α).size = 3) : ∃ a b c, l = [a, b, c] := by
  match l, h with
  | [a, b, c], _ => exact ⟨a, b, c, rfl⟩
theorem under_token : Tryd.prog.underlying 24 = some (.struct #[(Tryd.prog.fieldsOf 24)[0]!, (Tryd.prog.fieldsOf 24)[1]!, (Tryd.prog.fieldsOf 24)[2]!]) := by kernel_rfl
theorem cells_token : Tryd.prog.cellsOf 24 = 3 := by kernel_rfl
set_option maxRecDepth 100000 in
theorem open_token {ts : List TypeId} {ds : List (DataW H)} (hsz : (DataW.weightsEach Tryd.prog ts ds).all (· ≤ reachBytes) = true) {j : Nat} (htj : ts[j]? = some 24) (hdj : ds[j]? = some d)
    (hval : Value.okWide Tryd.prog W .any base 24 v) (h : DataW.Trod E Tryd.prog W 0 (fun _ => true) true 24 v d p) :
    ∃ (ten : ByteArray) (u : Value) (ls : List Cav) (sig : ByteArray), v = .agg #[.string ten, u, .string sig] ∧ Row W u ls ∧ ten.size ≤ 140737488351232 ∧ sig.size ≤ 140737488351232 := by
  obtain ⟨cs, rfl, hsize, _⟩ : ∃ cs, v = .agg cs ∧ cs.size = Tryd.prog.cellsOf 24 ∧ Row.okWide Tryd.prog W .any base 24 cs := by
    simpa [Value.okWide, under_token] using hval
  rw [cells_token] at hsize
  obtain ⟨l⟩ := cs
  obtain ⟨w0, w1, w2, rfl⟩ := list3 l hsize
  obtain ⟨fuel, hf⟩ := h
  obtain ⟨y0, y1, y2, k, hy, _, g0, g1, g2⟩ := Deep.trod_struct3 under_token hf
  have o0 : ((Tryd.prog.fieldsOf 24)[0]!).offset = 0 := by kernel_rfl
  have o1 : ((Tryd.prog.fieldsOf 24)[1]!).offset = 1 := by kernel_rfl
  have o2 : ((Tryd.prog.fieldsOf 24)[2]!).offset = 2 := by kernel_rfl
  have t0 : ((Tryd.prog.fieldsOf 24)[0]!).type = 9 := by kernel_rfl
  have t1 : ((Tryd.prog.fieldsOf 24)[1]!).type = 22 := by kernel_rfl
  have t2 : ((Tryd.prog.fieldsOf 24)[2]!).type = 9 := by kernel_rfl
  have z9 : Tryd.prog.cellsOf 9 = 1 := by kernel_rfl
  have z22 : Tryd.prog.cellsOf 22 = 1 := by kernel_rfl
  rw [o0, t0, z9] at g0
  rw [o1, t1, z22] at g1
  rw [o2, t2, z9] at g2
  simp [Value.cells] at g0 g1 g2
  obtain ⟨b0, e0, q0, _⟩ := DataW.trod_string Tryd.underlying9 g0
  obtain ⟨b2, e2, q2, _⟩ := DataW.trod_string Tryd.underlying9 g2
  obtain ⟨u, ls, hu, hr⟩ := cavs_of Tryd.underlying22 (f0 := (Tryd.prog.fieldsOf 27)[0]!) (f1 := (Tryd.prog.fieldsOf 27)[1]!) (by kernel_rfl) (by kernel_rfl) (by kernel_rfl) (by kernel_rfl) (by kernel_rfl) (by kernel_rfl) (by kernel_rfl) (by kernel_rfl) g1
  simp only [List.cons.injEq, and_true] at e0 e2 hu
  subst e0 e2 hu
  have hy := (Prod.mk.injEq .. ▸ hy : _ ∧ _)
  have hall : ∀ n ∈ d.weights Tryd.prog 24, n ≤ 140737488351232 := fun n hn => of_decide_eq_true (List.all_eq_true.1 hsz n (DataW.weights_mem_each htj hdj n hn))
  rw [hy.1, q0, q2] at hall
  simp only [DataW.weights, under_token, List.map_cons, List.map_nil, DataW.weightsEach] at hall
  have h1 := hall b0.data.toList.length (by simp)
  have h2 := hall b2.data.toList.length (by simp)
  rw [Array.length_toList] at h1 h2
  exact ⟨b0, w1, ls, b2, rfl, hr, h1, h2⟩
theorem under_cav : Tryd.prog.underlying 27 = some (.struct #[(Tryd.prog.fieldsOf 27)[0]!, (Tryd.prog.fieldsOf 27)[1]!]) := by kernel_rfl
theorem cells_cav : Tryd.prog.cellsOf 27 = 2 := by kernel_rfl
set_option maxRecDepth 100000 in
theorem open_cav (hval : Value.okWide Tryd.prog W .any base 27 v) (h : DataW.Trod E Tryd.prog W 0 (fun _ => true) true 27 v d p) : ∃ c : Cav, v = val c ∧ Fair c := by
  obtain ⟨cs, rfl, hsize, _⟩ : ∃ cs, v = .agg cs ∧ cs.size = Tryd.prog.cellsOf 27 ∧ Row.okWide Tryd.prog W .any base 27 cs := by
    simpa [Value.okWide, under_cav] using hval
  rw [cells_cav] at hsize
  obtain ⟨l⟩ := cs
  obtain ⟨w0, w1, rfl⟩ := list2 l hsize
  obtain ⟨fuel, hf⟩ := h
  obtain ⟨xs, k, _, hx, hl, hlen, hfs⟩ := DataW.trod_struct under_cav hf
  match xs, hlen with
  | [y0, y1], _ =>
    have g0 := hfs 0 (Tryd.prog.fieldsOf 27)[0]! rfl
    have g1 := hfs 1 (Tryd.prog.fieldsOf 27)[1]! rfl
    have o0 : ((Tryd.prog.fieldsOf 27)[0]!).offset = 0 := by kernel_rfl
    have o1 : ((Tryd.prog.fieldsOf 27)[1]!).offset = 1 := by kernel_rfl
    have t0 : ((Tryd.prog.fieldsOf 27)[0]!).type = 3 := by kernel_rfl
    have t1 : ((Tryd.prog.fieldsOf 27)[1]!).type = 25 := by kernel_rfl
    have z3 : Tryd.prog.cellsOf 3 = 1 := by kernel_rfl
    have z25 : Tryd.prog.cellsOf 25 = 1 := by kernel_rfl
    rw [o0, t0, z3] at g0
    rw [o1, t1, z25] at g1
    simp [Value.cells] at g0 g1
    obtain ⟨x0, e0, _, v0⟩ := DataW.trod_int Tryd.underlying3 g0
    obtain ⟨x1, e1, _, v1⟩ := DataW.trod_int Tryd.underlying25 g1
    simp only [List.cons.injEq, and_true] at e0 e1
    subst e0 e1
    obtain ⟨q1, q2⟩ := num_fair v0 v1
    exact ⟨(x0, x1.toNat), by unfold val; rw [q2], q1⟩
end
end Go.Proofs.YthopegokjbibmaaDoor.Mac
