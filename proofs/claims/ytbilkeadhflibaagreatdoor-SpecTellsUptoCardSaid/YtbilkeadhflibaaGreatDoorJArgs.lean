/- An argument that is a job: what it holds, how long by the reach and by the bulk. -/
import Derived.Test.YtbilkeadhflibaaGreatDoorJL4
import Derived.ProofKit
import Derived.OpenShut
import Derived.SizedLaws
import Derived.Laws.IdiomArrays
import Derived.Deep.Strs
namespace Go.Proofs.YtbilkeadhflibaaGreatDoor.Job
open Go.ChangeShapes Go.WideShapes Go.ChangeAt Go.RowKit Go.Proofs.YtbilkeadhflibaaGreatDoor.Texts Go.Proofs.YtbilkeadhflibaaGreatDoor.Vec Go.Proofs.YtbilkeadhflibaaGreatDoor.Sel

section
variable {H : Type} {enc : TypeId × Value → H} {P : Program}
/-- Terms inside a struct. -/
theorem terms_cells {t e ts es : TypeId} {f0 f1 f2 : Field} (ht : P.underlying t = some (.slice e)) (he : P.underlying e = some (.struct #[f0, f1, f2])) (ce : P.cellsOf e = 3)
    (o0 : f0.offset = 0) (o1 : f1.offset = 1) (o2 : f2.offset = 2) (c0 : P.cellsOf f0.type = 1) (c1 : P.cellsOf f1.type = 1) (c2 : P.cellsOf f2.type = 1)
    (u0 : P.underlying f0.type = some .string) (u1 : P.underlying f1.type = some .bool) (u2 : f2.type = ts) (us : P.underlying ts = some (.slice es)) (ue : P.underlying es = some .string) (ces : P.cellsOf es = 1)
    {W : World} {nf : Nat} {v : Value} {x : DataW H × List MemPlace} (hf : DataW.trod enc P W 0 (fun _ => true) true nf t [v] = some x) : ∃ ls, TRow W v ls ∧ LData ls x.1 := by
  rcases Deep.open_slice ht hf with ⟨hcs, hx⟩ | ⟨a, len, cap, m, n, D, Pl, hcs, _, hl, hm, hmm, hx, hi⟩
  · simp only [List.cons.injEq, and_true] at hcs
    subst hcs
    exact ⟨[], TRow.nil W, .inl ⟨by rw [hx], rfl⟩⟩
  · simp only [List.cons.injEq, and_true] at hcs
    subst hcs
    simp only [if_true] at hmm
    subst hmm
    rw [ce] at hi
    have each : ∀ i, i < m → ∃ t : Tm, (W.cell? (a.add (i * 3)) = some (.string t.1) ∧ W.cell? (a.add (i * 3 + 1)) = some (.bool t.2.1) ∧ ∃ v, W.cell? (a.add (i * 3 + 2)) = some v ∧ SRow W v t.2.2) ∧ TData t (D i) := fun i him => by
      obtain ⟨cs', h1, h2⟩ := hi i him
      obtain ⟨_, hlen, hcell⟩ := World.cells?_some h1
      obtain ⟨y0, y1, y2, k, hy, _, g0, g1, g2⟩ := Deep.trod_struct3 he h2
      match cs', hlen with
      | [w0, w1, w2], _ =>
        rw [o0, c0] at g0
        rw [o1, c1] at g1
        rw [o2, c2, u2] at g2
        simp at g0 g1 g2
        obtain ⟨b0, e0, q0, _⟩ := DataW.trod_string u0 g0
        obtain ⟨b1, e1, q1⟩ := DataW.trod_bool u1 g1
        obtain ⟨vs, hs, hd⟩ := open_cells us ue ces g2
        simp only [List.cons.injEq, and_true] at e0 e1
        have k0 := hcell 0 (by omega)
        have k1 := hcell 1 (by omega)
        have k2 := hcell 2 (by omega)
        rw [Deep.add_add] at k0 k1 k2
        simp only [Prod.mk.injEq] at hy
        refine ⟨(b0, b1, vs), ⟨by simpa [e0] using k0, by simpa [e1] using k1, w2, by simpa using k2, hs⟩, y2.1, ?_, hd⟩
        rw [hy.1, q0, q1]
    obtain ⟨T, hT⟩ := Deep.choose_lt (α := Tm) each
    have hlen : ((List.range len).map T).length = len := by simp
    refine ⟨(List.range len).map T, ?_, .inr ⟨D, _, by rw [hlen, hx], fun i t hit => ?_⟩⟩
    · by_cases hz : len = 0
      · subst hz
        exact .inl ⟨rfl, _, _, rfl, hm⟩
      · obtain ⟨ab, ao, spot⟩ := a
        have h0 := (hT 0 (by omega)).1.1
        have hspot : spot = none := by simpa [Addr.add] using World.cell?_spot h0
        subst hspot
        refine .inr ⟨fun hn => by rw [hn] at hlen; simp at hlen; omega, ab, ao, m, by rw [hlen], World.block_lt_of_cell? (a := ⟨ab, ao, none⟩) _ (by simpa [Addr.add] using h0), by rw [hlen]; exact hl, hm, fun k x hk => ?_⟩
        obtain ⟨hk1, rfl⟩ := List.getElem?_eq_some_iff.1 hk
        rw [hlen] at hk1
        obtain ⟨⟨g0, g1, v, g2, g3⟩, _⟩ := hT k (by omega)
        rw [Addr.add_lit] at g0 g1 g2
        simp only [List.getElem_map, List.getElem_range]
        exact ⟨g0, by rw [Nat.add_assoc]; exact g1, v, by rw [Nat.add_assoc]; exact g2, g3⟩
    · obtain ⟨hk1, rfl⟩ := List.getElem?_eq_some_iff.1 hit
      rw [hlen] at hk1
      simp only [List.getElem_map, List.getElem_range]
      exact (hT i (by omega)).2
def wordI (x : Int) : Prop := 0 ≤ x ∧ x ≤ 18446744073709551615
theorem trod_four {v e : TypeId} (hv : P.underlying v = some (.array 4 e)) (ce : P.cellsOf e = 1) (ue : P.underlying e = some (.int .u64)) {W : World} {n : Nat} {a0 a1 a2 a3 : Value} {x : DataW H × List MemPlace} (h : DataW.trod enc P W 0 (fun _ => true) true n v [a0, a1, a2, a3] = some x) :
    ∃ x0 x1 x2 x3 : Int, a0 = .int .u64 x0 ∧ a1 = .int .u64 x1 ∧ a2 = .int .u64 x2 ∧ a3 = .int .u64 x3 ∧ wordI x0 ∧ wordI x1 ∧ wordI x2 ∧ wordI x3 := by
  obtain ⟨ys, m, _, hy, _, hlen, hg⟩ := DataW.trod_array hv h
  match ys, hlen with
  | [r0, r1, r2, r3], _ =>
    have k0 := hg 0 (by decide)
    have k1 := hg 1 (by decide)
    have k2 := hg 2 (by decide)
    have k3 := hg 3 (by decide)
    rw [ce] at k0 k1 k2 k3
    simp at k0 k1 k2 k3
    obtain ⟨b0, e0, q0, z0⟩ := DataW.trod_int ue k0
    obtain ⟨b1, e1, q1, z1⟩ := DataW.trod_int ue k1
    obtain ⟨b2, e2, q2, z2⟩ := DataW.trod_int ue k2
    obtain ⟨b3, e3, q3, z3⟩ := DataW.trod_int ue k3
    simp only [List.cons.injEq, and_true] at e0 e1 e2 e3
    exact ⟨b0, b1, b2, b3, e0, e1, e2, e3, bounds_u64 z0, bounds_u64 z1, bounds_u64 z2, bounds_u64 z3⟩
end
section
variable {H : Type} {enc : TypeId × Value → H} {W : World} {base : Nat} {v : Value} {d : DataW H} {p : List MemPlace}
theorem list9 {α : Type} (l : List α) (h : (⟨l⟩ : Array α).size = 9) : ∃ a b c d e f g i j, l = [a, b, c, d, e, f, g, i, j] := by
  match l, h with
  | [a, b, c, d, e, f, g, i, j], _ => exact ⟨a, b, c, d, e, f, g, i, j, rfl⟩
theorem under_jb : Tryz.prog.underlying 27 = some (.struct #[(Tryz.prog.fieldsOf 27)[0]!, (Tryz.prog.fieldsOf 27)[1]!, (Tryz.prog.fieldsOf 27)[2]!, (Tryz.prog.fieldsOf 27)[3]!, (Tryz.prog.fieldsOf 27)[4]!, (Tryz.prog.fieldsOf 27)[5]!]) := by kernel_rfl
theorem cells_jb : Tryz.prog.cellsOf 27 = 9 := by kernel_rfl
/-- What is read of a job, as far as it has a length. -/
def JData (x : Jb) (d : DataW H) : Prop := ∃ d1 d2 d3 d4 d5, d = .agg [.lit (.string (path x).data.toList), d1, d2, d3, d4, d5] ∧ LData (terms x) d5
set_option maxRecDepth 100000 in
theorem open_jb (hval : Value.okWide Tryz.prog W .any base 27 v) (h : DataW.Trod enc Tryz.prog W 0 (fun _ => true) true 27 v d p) :
    ∃ (x : Jb) (u : Value), v = valJ x u ∧ TRow W u (terms x) ∧ fair4 (dem x) ∧ JData x d ∧ (-9223372036854775808 ≤ cou x ∧ cou x ≤ 9223372036854775807) := by
  obtain ⟨cs, rfl, hsize, _⟩ : ∃ cs, v = .agg cs ∧ cs.size = Tryz.prog.cellsOf 27 ∧ Row.okWide Tryz.prog W .any base 27 cs := by
    simpa [Value.okWide, under_jb] using hval
  rw [cells_jb] at hsize
  obtain ⟨l⟩ := cs
  obtain ⟨w0, w1, w2, w3, w4, w5, w6, w7, w8, rfl⟩ := list9 l hsize
  obtain ⟨fuel, hf⟩ := h
  obtain ⟨xs, k, _, hx, hl, hlen, hfs⟩ := DataW.trod_struct under_jb hf
  match xs, hlen with
  | [y0, y1, y2, y3, y4, y5], _ =>
    have g0 := hfs 0 ((Tryz.prog.fieldsOf 27)[0]!) rfl
    have g1 := hfs 1 ((Tryz.prog.fieldsOf 27)[1]!) rfl
    have g2 := hfs 2 ((Tryz.prog.fieldsOf 27)[2]!) rfl
    have g3 := hfs 3 ((Tryz.prog.fieldsOf 27)[3]!) rfl
    have g4 := hfs 4 ((Tryz.prog.fieldsOf 27)[4]!) rfl
    have g5 := hfs 5 ((Tryz.prog.fieldsOf 27)[5]!) rfl
    have o0 : ((Tryz.prog.fieldsOf 27)[0]!).offset = 0 := by kernel_rfl
    have o1 : ((Tryz.prog.fieldsOf 27)[1]!).offset = 1 := by kernel_rfl
    have o2 : ((Tryz.prog.fieldsOf 27)[2]!).offset = 5 := by kernel_rfl
    have o3 : ((Tryz.prog.fieldsOf 27)[3]!).offset = 6 := by kernel_rfl
    have o4 : ((Tryz.prog.fieldsOf 27)[4]!).offset = 7 := by kernel_rfl
    have o5 : ((Tryz.prog.fieldsOf 27)[5]!).offset = 8 := by kernel_rfl
    have t0 : ((Tryz.prog.fieldsOf 27)[0]!).type = 9 := by kernel_rfl
    have t1 : ((Tryz.prog.fieldsOf 27)[1]!).type = 24 := by kernel_rfl
    have t2 : ((Tryz.prog.fieldsOf 27)[2]!).type = 3 := by kernel_rfl
    have t3 : ((Tryz.prog.fieldsOf 27)[3]!).type = 3 := by kernel_rfl
    have t4 : ((Tryz.prog.fieldsOf 27)[4]!).type = 3 := by kernel_rfl
    have t5 : ((Tryz.prog.fieldsOf 27)[5]!).type = 25 := by kernel_rfl
    have z0 : Tryz.prog.cellsOf 9 = 1 := by kernel_rfl
    have z1 : Tryz.prog.cellsOf 24 = 4 := by kernel_rfl
    have z2 : Tryz.prog.cellsOf 3 = 1 := by kernel_rfl
    have z5 : Tryz.prog.cellsOf 25 = 1 := by kernel_rfl
    rw [o0, t0, z0] at g0
    rw [o1, t1, z1] at g1
    rw [o2, t2, z2] at g2
    rw [o3, t3, z2] at g3
    rw [o4, t4, z2] at g4
    rw [o5, t5, z5] at g5
    simp [Value.cells] at g0 g1 g2 g3 g4 g5
    obtain ⟨b0, e0, q0, _⟩ := DataW.trod_string Tryz.underlying9 g0
    obtain ⟨x0, x1, x2, x3, i0, i1, i2, i3, r0, r1, r2, r3⟩ := trod_four (by kernel_rfl : Tryz.prog.underlying 24 = some (.array 4 22)) (by kernel_rfl) Tryz.underlying22 g1
    obtain ⟨n2, e2, _, v2⟩ := DataW.trod_int Tryz.underlying3 g2
    obtain ⟨n3, e3, _, v3⟩ := DataW.trod_int Tryz.underlying3 g3
    obtain ⟨n4, e4, _, v4⟩ := DataW.trod_int Tryz.underlying3 g4
    obtain ⟨ls, hrow, hld⟩ := terms_cells Tryz.underlying25 (f0 := (Tryz.prog.fieldsOf 102)[0]!) (f1 := (Tryz.prog.fieldsOf 102)[1]!) (f2 := (Tryz.prog.fieldsOf 102)[2]!) (ts := 28) (es := 9) (by kernel_rfl) (by kernel_rfl) (by kernel_rfl) (by kernel_rfl) (by kernel_rfl) (by kernel_rfl) (by kernel_rfl) (by kernel_rfl) (by kernel_rfl) (by kernel_rfl) (by kernel_rfl) (by kernel_rfl) (by kernel_rfl) (by kernel_rfl) g5
    simp only [List.cons.injEq, and_true] at e0 e2 e3 e4
    subst e0 e2 e3 e4 i0 i1 i2 i3
    have c0 : ((x0.toNat : Nat) : Int) = x0 := Int.toNat_of_nonneg r0.1
    have c1 : ((x1.toNat : Nat) : Int) = x1 := Int.toNat_of_nonneg r1.1
    have c2 : ((x2.toNat : Nat) : Int) = x2 := Int.toNat_of_nonneg r2.1
    have c3 : ((x3.toNat : Nat) : Int) = x3 := Int.toNat_of_nonneg r3.1
    refine ⟨(b0, (x0.toNat, x1.toNat, x2.toNat, x3.toNat), (n2, n3, n4), ls), w8, ?_, hrow, ?_, ⟨y1.1, y2.1, y3.1, y4.1, y5.1, ?_, hld⟩, bounds_i64 v2⟩
    · show _ = Value.agg #[.string b0, .int .u64 (x0.toNat : Nat), .int .u64 (x1.toNat : Nat), .int .u64 (x2.toNat : Nat), .int .u64 (x3.toNat : Nat), .int .i64 n2, .int .i64 n3, .int .i64 n4, w8]
      rw [c0, c1, c2, c3]
    · unfold wordI at r0 r1 r2 r3
      exact fair_pow _ _ _ _ (by omega)
    · have hx' := congrArg Prod.fst hx
      simp only [List.map_cons, List.map_nil] at hx'
      rw [hx', q0]
      rfl
theorem JData.bulk {x : Jb} (h : JData x d) : (path x).size ≤ Rows.uptoBulk d ∧ (terms x).length ≤ Rows.uptoBulk d ∧ ∀ t ∈ terms x, t.1.size ≤ Rows.uptoBulk d ∧ t.2.2.length ≤ Rows.uptoBulk d ∧ ∀ y ∈ t.2.2, y.size ≤ Rows.uptoBulk d := by
  obtain ⟨d1, d2, d3, d4, d5, rfl, hl⟩ := h
  obtain ⟨h1, h2⟩ := hl.bulk
  have hz : (path x).data.toList.length = (path x).size := Array.length_toList
  simp only [Rows.uptoBulk, Rows.uptoBulkAll]
  exact ⟨by omega, by omega, fun t ht => by obtain ⟨a, b, c⟩ := h2 t ht; exact ⟨by omega, by omega, fun y hy => by have := c y hy; omega⟩⟩
theorem fair_small {x : Jb} {B : Nat} (hB : B ≤ 140737488355328) (h4 : fair4 (dem x)) (h : (path x).size ≤ B ∧ (terms x).length ≤ B ∧ ∀ t ∈ terms x, t.1.size ≤ B ∧ t.2.2.length ≤ B ∧ ∀ y ∈ t.2.2, y.size ≤ B) : FairJ x :=
  ⟨by omega, h4, by omega, fun t ht => by obtain ⟨a, b, c⟩ := h.2.2 t ht; exact ⟨by omega, by omega, fun y hy => by have := c y hy; omega⟩⟩
theorem JData.reach {x : Jb} (h : JData x d) {ts : List TypeId} {ds : List (DataW H)} (hsz : (DataW.weightsEach Tryz.prog ts ds).all (· ≤ reachBytes) = true) {j : Nat} (htj : ts[j]? = some 27) (hdj : ds[j]? = some d) (h4 : fair4 (dem x)) : FairJ x := by
  obtain ⟨d1, d2, d3, d4, d5, rfl, hl⟩ := h
  have hall : ∀ n ∈ DataW.weights Tryz.prog 27 (.agg [.lit (.string (path x).data.toList), d1, d2, d3, d4, d5]), n ≤ 140737488351232 := fun n hn => of_decide_eq_true (List.all_eq_true.1 hsz n (DataW.weights_mem_each htj hdj n hn))
  have t5 : ((Tryz.prog.fieldsOf 27)[5]!).type = 25 := by kernel_rfl
  simp only [DataW.weights, under_jb, List.map_cons, List.map_nil, DataW.weightsEach] at hall
  have h1 := hall (path x).data.toList.length (by simp)
  rw [Array.length_toList] at h1
  have h5 := hl.reach (P := Tryz.prog) (f0 := (Tryz.prog.fieldsOf 102)[0]!) (f1 := (Tryz.prog.fieldsOf 102)[1]!) (f2 := (Tryz.prog.fieldsOf 102)[2]!) (ts := 28) (es := 9) Tryz.underlying25 (by kernel_rfl) (by kernel_rfl) (by kernel_rfl) (by kernel_rfl) (by kernel_rfl) (fun n hn => hall n (by rw [t5]; simp [hn]))
  refine fair_small (B := 140737488351232) (by omega) h4 ⟨h1, by omega, fun t ht => ?_⟩
  obtain ⟨a, b, c⟩ := h5.2 t ht
  exact ⟨a, by omega, c⟩
end
end Go.Proofs.YtbilkeadhflibaaGreatDoor.Job
