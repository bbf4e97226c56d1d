/- Arguments that are slots, and amounts in slices (chapter 13): what they hold, how many by the reach. -/
import Derived.Test.YtbefnophkaepmaaKPart
import Derived.Test.YtbefnophkaepmaaQEnt
import Derived.ProofKit
import Derived.OpenShut
import Derived.SizedLaws
import Derived.Deep.SlicePairs
namespace Go.Proofs.Ytbefnophkaepmaa.Pack
open Go.ChangeShapes Go.WideShapes Go.ChangeAt Go.RowKit Go.Proofs.Ytbefnophkaepmaa.Texts Go.Proofs.Ytbefnophkaepmaa.Label Go.Proofs.Ytbefnophkaepmaa.Vec

instance : Inhabited Slot := ⟨⟨⟨#[]⟩, fun _ => 0, []⟩⟩
/-- Four amounts. -/
def four4 (a b c d : Int) : Nat → Int
  | 0 => a
  | 1 => b
  | 2 => c
  | _ => d
theorem range44 {a b c d : Int} (h : 0 ≤ a ∧ a ≤ 18446744073709551615) (h1 : 0 ≤ b ∧ b ≤ 18446744073709551615) (h2 : 0 ≤ c ∧ c ≤ 18446744073709551615) (h3 : 0 ≤ d ∧ d ≤ 18446744073709551615) : InRange (four4 a b c d) := by
  intro i hi
  have : i = 0 ∨ i = 1 ∨ i = 2 ∨ i = 3 := by omega
  rcases this with rfl | rfl | rfl | rfl
  · exact h
  · exact h1
  · exact h2
  · exact h3
def strV : Value → ByteArray
  | .string s => s
  | _ => ⟨#[]⟩
section
variable {H : Type} {enc : TypeId × Value → H} {P : Program}
/-- Labels inside a struct. -/
theorem pair_cells {t e : TypeId} {f0 f1 : Field} (ht : P.underlying t = some (.slice e)) (he : P.underlying e = some (.struct #[f0, f1])) (ce : P.cellsOf e = 2) (o0 : f0.offset = 0) (o1 : f1.offset = 1)
    (c0 : P.cellsOf f0.type = 1) (c1 : P.cellsOf f1.type = 1) (s0 : P.underlying f0.type = some .string) (s1 : P.underlying f1.type = some .string) {W : World} {n : Nat} {v : Value} {x : DataW H × List MemPlace}
    (h : DataW.trod enc P W 0 (fun _ => true) true n t [v] = some x) : ∃ ls : List Pr, Row W v ls ∧ ((x.1 = .nil ∧ ls = []) ∨ ∃ xs rest, x.1 = .slice xs rest ∧ xs.length = ls.length) := by
  rcases Deep.open_slice_pairs ht he ce o0 o1 c0 c1 h with ⟨hcs, hx⟩ | ⟨a, len, cap, m, n, V0, V1, D0, D1, P0, P1, hcs, _, hl, hm, hmm, hx, hi⟩
  · simp only [List.cons.injEq, and_true] at hcs
    subst hcs
    exact ⟨[], .inl ⟨rfl, _, _, rfl, Nat.zero_le _⟩, .inl ⟨by rw [hx], rfl⟩⟩
  · simp only [List.cons.injEq, and_true] at hcs
    subst hcs
    simp only [if_true] at hmm
    subst hmm
    have hlen : ((List.range len).map fun i => (strV (V0 i), strV (V1 i))).length = len := by simp
    refine ⟨(List.range len).map fun i => (strV (V0 i), strV (V1 i)), ?_, .inr ⟨_, _, by rw [hx], by simp⟩⟩
    by_cases hz : len = 0
    · subst hz
      exact .inl ⟨rfl, _, _, rfl, hm⟩
    · have hs : ∀ i, i < m → V0 i = .string (strV (V0 i)) ∧ V1 i = .string (strV (V1 i)) := fun i him => by
        obtain ⟨_, _, h3, h4⟩ := hi i him
        obtain ⟨x0, e0, _⟩ := DataW.trod_string s0 h3
        obtain ⟨x1, e1, _⟩ := DataW.trod_string s1 h4
        simp only [List.cons.injEq, and_true] at e0 e1
        rw [e0, e1]
        exact ⟨rfl, rfl⟩
      obtain ⟨ab, ao, spot⟩ := a
      have h0 := (hi 0 (by omega)).1
      have hspot : spot = none := by simpa [Addr.add] using World.cell?_spot h0
      subst hspot
      refine .inr ⟨fun hn => by rw [hn] at hlen; simp at hlen; omega, ab, ao, m, by rw [hlen], World.block_lt_of_cell? (a := ⟨ab, ao, none⟩) _ (by simpa [Addr.add] using h0), by rw [hlen]; exact hl, hm, fun k x hk => ?_⟩
      obtain ⟨hk1, rfl⟩ := List.getElem?_eq_some_iff.1 hk
      rw [hlen] at hk1
      obtain ⟨g0, g1, _, _⟩ := hi k (by omega)
      obtain ⟨q0, q1⟩ := hs k (by omega)
      rw [Addr.add_lit] at g0 g1
      simp only [List.getElem_map, List.getElem_range]
      rw [← q0, ← q1]
      exact ⟨g0, by rw [Nat.add_assoc]; exact g1⟩

/-- A slice of slots, opened. -/
theorem open_slots_of {t e tp ep ev : TypeId} {f0 f1 f2 g0 g1 : Field} (ht : P.underlying t = some (.slice e)) (he : P.underlying e = some (.struct #[f0, f1, f2])) (ce : P.cellsOf e = 6)
    (o0 : f0.offset = 0) (o1 : f1.offset = 1) (o2 : f2.offset = 5) (c0 : P.cellsOf f0.type = 1) (c1 : P.cellsOf f1.type = 4) (c2 : P.cellsOf f2.type = 1)
    (u0 : P.underlying f0.type = some .string) (u1 : P.underlying f1.type = some (.array 4 ev)) (cv : P.cellsOf ev = 1) (uv : P.underlying ev = some (.int .u64))
    (u2 : f2.type = tp) (ut : P.underlying tp = some (.slice ep)) (ue : P.underlying ep = some (.struct #[g0, g1])) (cp : P.cellsOf ep = 2) (q0 : g0.offset = 0) (q1 : g1.offset = 1)
    (k0 : P.cellsOf g0.type = 1) (k1 : P.cellsOf g1.type = 1) (s0 : P.underlying g0.type = some .string) (s1 : P.underlying g1.type = some .string) (be : P.bytesOf e = 72) (bp : P.bytesOf ep = 32)
    {W : World} {base : Nat} {v : Value} {d : DataW H} {p : List MemPlace} (hval : Value.okWide P W .any base t v) (h : DataW.Trod enc P W 0 (fun _ => true) true t v d p)
    (hB : ∀ n ∈ d.weights P t, n ≤ 140737488351232) : ∃ ls, SlRow W v ls ∧ ls.length * 72 ≤ 140737488351232 := by
  obtain ⟨a1, len, cap, rfl⟩ := okWide_slice ht hval
  obtain ⟨fuel, hf⟩ := h
  rcases Deep.open_slice ht hf with ⟨hcs, hx⟩ | ⟨a, len', cap', m, n, D, Pl, hcs, _, hl, hm, hmm, hx, hi⟩
  · simp [Value.cells] at hcs
    obtain ⟨rfl, rfl, rfl⟩ := hcs
    exact ⟨[], SlRow.nil W, by simp⟩
  · simp [Value.cells] at hcs
    obtain ⟨rfl, rfl, rfl⟩ := hcs
    simp only [if_true] at hmm
    subst hmm
    simp only [Prod.mk.injEq] at hx
    rw [ce] at hi
    rw [hx.1] at hB
    simp only [DataW.weights, ht, be] at hB
    have each : ∀ i, i < m → ∃ s : Slot, i < len → ((∃ lv, (∀ j v, (cellsS s lv)[j]? = some v → W.cell? (a.add (i * 6 + j)) = some v) ∧ Row W lv s.labs) ∧ s.ok) := fun i him => by
      by_cases hil : i < len
      · obtain ⟨cs', h1, h2⟩ := hi i him
        obtain ⟨_, hlen, hcell⟩ := World.cells?_some h1
        obtain ⟨y0, y1, y2, k, hy, _, r0, r1, r2⟩ := Deep.trod_struct3 he h2
        match cs', hlen with
        | [w0, w1, w2, w3, w4, w5], _ =>
          rw [o0, c0] at r0
          rw [o1, c1] at r1
          rw [o2, c2, u2] at r2
          simp at r0 r1 r2
          obtain ⟨b0, e0, t0, _⟩ := DataW.trod_string u0 r0
          obtain ⟨x0, x1, x2, x3, d1, d2, d3, d4, t1, z0, z1, z2, z3⟩ := Quota.trod_four u1 cv uv r1
          obtain ⟨ps, hps, hdp⟩ := pair_cells ut ue cp q0 q1 k0 k1 s0 s1 r2
          simp only [List.cons.injEq, and_true] at e0
          subst e0 d1 d2 d3 d4
          have hps42 : ps.length ≤ 4398046511104 := by
            rcases hdp with ⟨_, rfl⟩ | ⟨xs, rest, hd, hxl⟩
            · simp
            · have hmem : D i ∈ (List.range len).map D := List.mem_map.2 ⟨i, List.mem_range.2 hil, rfl⟩
              have hall : ∀ n ∈ (D i).weights P e, n ≤ 140737488351232 := fun n hn => hB n (List.mem_cons_of_mem _ (List.mem_append_left _ (weights_all hmem n hn)))
              simp only [Prod.mk.injEq] at hy
              rw [hy.1] at hall
              simp only [DataW.weights, he, List.map_cons, List.map_nil, DataW.weightsEach] at hall
              have := hall ((xs.length + rest.length) * 32) (by rw [hd, u2]; simp [DataW.weights, ut, bp])
              omega
          refine ⟨⟨b0, four4 x0 x1 x2 x3, ps⟩, fun _ => ⟨⟨w5, fun j v hj => ?_, hps⟩, range44 z0 z1 z2 z3, hps42⟩⟩
          have hjl : j < 6 := (List.getElem?_eq_some_iff.1 hj).1
          have g := hcell j (by simpa using hjl)
          rw [Deep.add_add] at g
          rw [g]
          exact hj
      · exact ⟨⟨⟨#[]⟩, fun _ => 0, []⟩, fun h => absurd h hil⟩
    obtain ⟨T, hT⟩ := Deep.choose_lt (α := Slot) each
    have hlen : ((List.range len).map T).length = len := by simp
    refine ⟨(List.range len).map T, ?_, ?_⟩
    · by_cases hz : len = 0
      · subst hz
        exact .inl ⟨rfl, _, _, rfl, hm⟩
      · obtain ⟨ab, ao, spot⟩ := a
        obtain ⟨⟨lv0, hc0, _⟩, _⟩ := hT 0 (by omega) (by omega)
        have h0 := hc0 0 _ rfl
        have hspot : spot = none := by simpa [Addr.add] using World.cell?_spot h0
        subst hspot
        refine .inr ⟨fun hn => by rw [hn] at hlen; simp at hlen; omega, ab, ao, m, by rw [hlen], World.block_lt_of_cell? (a := ⟨ab, ao, none⟩) _ (by simpa [Addr.add] using h0), by rw [hlen]; exact hl, hm, fun k x hk => ?_⟩
        obtain ⟨hk1, rfl⟩ := List.getElem?_eq_some_iff.1 hk
        rw [hlen] at hk1
        simp only [List.getElem_map, List.getElem_range]
        obtain ⟨⟨lv, hc, hr⟩, hok⟩ := hT k (by omega) hk1
        refine ⟨lv, fun i v hi => ?_, hr, hok⟩
        have g := hc i v hi
        rw [Addr.add_lit] at g
        rw [Nat.add_assoc]
        exact g
    · have := hB _ (List.mem_cons_self ..)
      simp only [List.length_map, List.length_range] at this
      rw [hlen]
      have h2 : len * 72 ≤ (len + (m - len)) * 72 := Nat.mul_le_mul_right _ (Nat.le_add_right _ _)
      omega
/-- Amounts in a slice. -/
def VcRow (w : World) (v : Value) (ls : List (Nat → Int)) : Prop :=
  (ls = [] ∧ ∃ a cap, v = .slice a 0 cap ∧ cap ≤ maxLen) ∨ (ls ≠ [] ∧ ∃ g o cap, v = .slice (some ⟨g, o, none⟩) ls.length cap ∧ g < w.heap.size ∧ ls.length ≤ cap ∧ cap ≤ maxLen ∧ ∀ j x, ls[j]? = some x → (∀ i, i < 4 → w.cell? ⟨g, o + j * 4 + i, none⟩ = some (.int .u64 (x i))) ∧ InRange x)
/-- A slice of amounts, opened. -/
theorem open_vecs_of {t e ev : TypeId} (ht : P.underlying t = some (.slice e)) (he : P.underlying e = some (.array 4 ev)) (ce : P.cellsOf e = 4) (cv : P.cellsOf ev = 1) (uv : P.underlying ev = some (.int .u64))
    {W : World} {base : Nat} {v : Value} {d : DataW H} {p : List MemPlace} (hval : Value.okWide P W .any base t v) (h : DataW.Trod enc P W 0 (fun _ => true) true t v d p) : ∃ ls, VcRow W v ls := by
  obtain ⟨a1, len, cap, rfl⟩ := okWide_slice ht hval
  obtain ⟨fuel, hf⟩ := h
  rcases Deep.open_slice ht hf with ⟨hcs, hx⟩ | ⟨a, len', cap', m, n, D, Pl, hcs, _, hl, hm, hmm, hx, hi⟩
  · simp [Value.cells] at hcs
    obtain ⟨rfl, rfl, rfl⟩ := hcs
    exact ⟨[], .inl ⟨rfl, _, _, rfl, Nat.zero_le _⟩⟩
  · simp [Value.cells] at hcs
    obtain ⟨rfl, rfl, rfl⟩ := hcs
    simp only [if_true] at hmm
    subst hmm
    rw [ce] at hi
    have each : ∀ i, i < m → ∃ x : Nat → Int, (∀ j, j < 4 → W.cell? (a.add (i * 4 + j)) = some (.int .u64 (x j))) ∧ InRange x := fun i him => by
      obtain ⟨cs', h1, h2⟩ := hi i him
      obtain ⟨_, hlen, hcell⟩ := World.cells?_some h1
      match cs', hlen, h2, hcell with
      | [w0, w1, w2, w3], _, h2, hcell =>
        obtain ⟨x0, x1, x2, x3, d1, d2, d3, d4, _, z0, z1, z2, z3⟩ := Quota.trod_four he cv uv h2
        subst d1 d2 d3 d4
        refine ⟨four4 x0 x1 x2 x3, fun j hj => ?_, range44 z0 z1 z2 z3⟩
        have g := hcell j (by simpa using hj)
        rw [Deep.add_add] at g
        rw [g]
        have : j = 0 ∨ j = 1 ∨ j = 2 ∨ j = 3 := by omega
        rcases this with rfl | rfl | rfl | rfl <;> rfl
    obtain ⟨T, hT⟩ := Deep.choose_lt (α := Nat → Int) each
    have hlen : ((List.range len).map T).length = len := by simp
    refine ⟨(List.range len).map T, ?_⟩
    by_cases hz : len = 0
    · subst hz
      exact .inl ⟨rfl, _, _, rfl, hm⟩
    · obtain ⟨ab, ao, spot⟩ := a
      have h0 := (hT 0 (by omega)).1 0 (by decide)
      have hspot : spot = none := by simpa [Addr.add] using World.cell?_spot h0
      subst hspot
      refine .inr ⟨fun hn => by rw [hn] at hlen; simp at hlen; omega, ab, ao, m, by rw [hlen], World.block_lt_of_cell? (a := ⟨ab, ao, none⟩) _ (by simpa [Addr.add] using h0), by rw [hlen]; exact hl, hm, fun k x hk => ?_⟩
      obtain ⟨hk1, rfl⟩ := List.getElem?_eq_some_iff.1 hk
      rw [hlen] at hk1
      simp only [List.getElem_map, List.getElem_range]
      refine ⟨fun i hi => ?_, (hT k (by omega)).2⟩
      have g := (hT k (by omega)).1 i hi
      rw [Addr.add_lit] at g
      rw [Nat.add_assoc]
      exact g
end
section
variable {H : Type} {enc : TypeId × Value → H} {W : World} {base : Nat} {v : Value} {d : DataW H} {p : List MemPlace}
theorem open_slots (hval : Value.okWide Try.prog W .any base 22 v) (h : DataW.Trod enc Try.prog W 0 (fun _ => true) true 22 v d p) (hB : ∀ n ∈ d.weights Try.prog 22, n ≤ 140737488351232) : ∃ ls, SlRow W v ls ∧ ls.length * 72 ≤ 140737488351232 :=
  open_slots_of Try.underlying22 (f0 := (Try.prog.fieldsOf 47)[0]!) (f1 := (Try.prog.fieldsOf 47)[1]!) (f2 := (Try.prog.fieldsOf 47)[2]!) (tp := 45) (ep := 57) (ev := 24) (g0 := (Try.prog.fieldsOf 57)[0]!) (g1 := (Try.prog.fieldsOf 57)[1]!)
    (by kernel_rfl) (by kernel_rfl) (by kernel_rfl) (by kernel_rfl) (by kernel_rfl) (by kernel_rfl) (by kernel_rfl) (by kernel_rfl) (by kernel_rfl) (by kernel_rfl) (by kernel_rfl) (by kernel_rfl) (by kernel_rfl) (by kernel_rfl) (by kernel_rfl) (by kernel_rfl) (by kernel_rfl) (by kernel_rfl) (by kernel_rfl) (by kernel_rfl) (by kernel_rfl) (by kernel_rfl) (by kernel_rfl) (by kernel_rfl) hval h hB
theorem open_vecs (hval : Value.okWide Try.prog W .any base 43 v) (h : DataW.Trod enc Try.prog W 0 (fun _ => true) true 43 v d p) : ∃ ls, VcRow W v ls :=
  open_vecs_of Try.underlying43 (e := 26) (ev := 24) (by kernel_rfl) (by kernel_rfl) (by kernel_rfl) (by kernel_rfl) hval h
theorem list44 {α : Type} (l : List α) (h : (⟨l⟩ : Array α).size = 4) : ∃ a b c d, l = [a, b, c, d] := by
  match l, h with
  | [a, b, c, d], _ => exact ⟨a, b, c, d, rfl⟩
theorem under_v : Try.prog.underlying 26 = some (.array 4 24) := by kernel_rfl
theorem cells_v : Try.prog.cellsOf 26 = 4 := by kernel_rfl
set_option maxRecDepth 100000 in
theorem open_vec4 (hv : Value.okWide Try.prog W .any base 26 v) (h : DataW.Trod enc Try.prog W 0 (fun _ => true) true 26 v d p) : ∃ x : Nat → Int, v = .agg #[.int .u64 (x 0), .int .u64 (x 1), .int .u64 (x 2), .int .u64 (x 3)] ∧ InRange x := by
  obtain ⟨cs, rfl, hsz, _⟩ : ∃ cs, v = .agg cs ∧ cs.size = Try.prog.cellsOf 26 ∧ Row.okWide Try.prog W .any base 26 cs := by
    simpa [Value.okWide, under_v] using hv
  rw [cells_v] at hsz
  obtain ⟨l⟩ := cs
  obtain ⟨c0, c1, c2, c3, rfl⟩ := list44 l hsz
  obtain ⟨fuel, hf⟩ := h
  obtain ⟨x0, x1, x2, x3, e0, e1, e2, e3, _, w0, w1, w2, w3⟩ := Quota.trod_four (enc := enc) under_v (by kernel_rfl) Try.underlying24 hf
  subst e0 e1 e2 e3
  exact ⟨four4 x0 x1 x2 x3, rfl, range44 w0 w1 w2 w3⟩
/-- A selector in reach is fair. -/
theorem fair_terms {ts : List Sel.Tm} (hl : ts.length * 48 ≤ 140737488351232) (hz : ∀ t ∈ ts, t.1.size ≤ 140737488351232 ∧ t.2.2.length * 16 ≤ 140737488351232 ∧ ∀ x ∈ t.2.2, x.size ≤ 140737488351232) : Sel.Fair ts :=
  ⟨by omega, fun t ht => by obtain ⟨h1, h2, h3⟩ := hz t ht; exact ⟨by omega, by omega, fun x hx => by have := h3 x hx; omega⟩⟩
end
end Go.Proofs.Ytbefnophkaepmaa.Pack
