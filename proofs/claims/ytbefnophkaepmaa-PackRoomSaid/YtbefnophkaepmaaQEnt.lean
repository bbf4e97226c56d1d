/- Trees of limits in memory and as arguments (chapter 10): a slice of structs of a text and twice four amounts; of no program. -/
import Derived.Test.YtbefnophkaepmaaPJ1
import Derived.Lib.SmallJoins
namespace Go.Proofs.Ytbefnophkaepmaa.Quota
open Go.ChangeShapes Go.WideShapes Go.ChangeAt Go.RowKit Go.Proofs.Ytbefnophkaepmaa.Texts

/-- An entry as it lies: its path, its limit, what is used. -/
structure En where
  path : ByteArray
  l0 : Int
  l1 : Int
  l2 : Int
  l3 : Int
  u0 : Int
  u1 : Int
  u2 : Int
  u3 : Int
instance : Inhabited En := ⟨⟨⟨#[]⟩, 0, 0, 0, 0, 0, 0, 0, 0⟩⟩
def word (x : Int) : Prop := 0 ≤ x ∧ x ≤ 18446744073709551615
/-- Its amounts are of 64 bits. -/
structure En.ok (t : En) : Prop where
  l0 : word t.l0
  l1 : word t.l1
  l2 : word t.l2
  l3 : word t.l3
  u0 : word t.u0
  u1 : word t.u1
  u2 : word t.u2
  u3 : word t.u3
/-- Its cells. -/
def cellsN (t : En) : Array Value := #[.string t.path, .int .u64 t.l0, .int .u64 t.l1, .int .u64 t.l2, .int .u64 t.l3, .int .u64 t.u0, .int .u64 t.u1, .int .u64 t.u2, .int .u64 t.u3]
def valN (t : En) : Value := .agg (cellsN t)
/-- Entries in cells. -/
def NCells (w : World) (g o : Nat) (ls : List En) : Prop := ∀ j t, ls[j]? = some t → ∀ i v, (cellsN t)[i]? = some v → w.cell? ⟨g, o + j * 9 + i, none⟩ = some v
/-- A slice of entries. -/
def NRow (w : World) (v : Value) (ls : List En) : Prop :=
  (ls = [] ∧ ∃ a cap, v = .slice a 0 cap ∧ cap ≤ maxLen) ∨ (ls ≠ [] ∧ ∃ g o cap, v = .slice (some ⟨g, o, none⟩) ls.length cap ∧ g < w.heap.size ∧ ls.length ≤ cap ∧ cap ≤ maxLen ∧ NCells w g o ls)
theorem NCells.below {w w' : World} {g o : Nat} {ls : List En} (h : NCells w g o ls) (hg : g < w.heap.size) (hb : Below w.heap.size w w') : NCells w' g o ls := fun j t hj i v hi => by
  rw [hb.cell (p := ⟨g, o + j * 9 + i, none⟩) hg]
  exact h j t hj i v hi
theorem NRow.below {w w' : World} {v : Value} {ls : List En} (h : NRow w v ls) (hb : Below w.heap.size w w') : NRow w' v ls := by
  rcases h with h | ⟨h0, g, o, cap, h1, h2, h3, h4, h5⟩
  · exact .inl h
  · exact .inr ⟨h0, g, o, cap, h1, by have := hb.size; omega, h3, h4, h5.below h2 hb⟩
theorem NRow.slice {w : World} {v : Value} {ls : List En} (h : NRow w v ls) : ∃ a cap, v = .slice a ls.length cap ∧ ls.length ≤ cap ∧ cap ≤ maxLen := by
  rcases h with ⟨rfl, a, cap, rfl, hm⟩ | ⟨_, g, o, cap, rfl, _, hc, hm, _⟩
  · exact ⟨_, _, rfl, Nat.zero_le _, hm⟩
  · exact ⟨_, _, rfl, hc, hm⟩
theorem NRow.cells {w : World} {a : Option Addr} {cap k n : Nat} {ls : List En} (h : NRow w (.slice a n cap) ls) (hk : k < ls.length) : ∃ g o, a = some ⟨g, o, none⟩ ∧ g < w.heap.size ∧ NCells w g o ls := by
  rcases h with ⟨rfl, _⟩ | ⟨_, g, o, cap', hsl, hg, _, _, hcell⟩
  · simp at hk
  · injection hsl with h1 _ _
    exact ⟨g, o, h1, hg, hcell⟩
theorem NRow.nil (w : World) : NRow w (.slice none 0 0) [] := .inl ⟨rfl, _, _, rfl, Nat.zero_le _⟩

section
variable {H : Type} {enc : TypeId × Value → H} {P : Program}
/-- What is read of an entry. -/
def dataN (t : En) : DataW H := .agg [.lit (.string t.path.data.toList), .agg [.lit (.int .u64 t.l0), .lit (.int .u64 t.l1), .lit (.int .u64 t.l2), .lit (.int .u64 t.l3)], .agg [.lit (.int .u64 t.u0), .lit (.int .u64 t.u1), .lit (.int .u64 t.u2), .lit (.int .u64 t.u3)]]
/-- What is read of entries. -/
def NsData (ls : List En) (d : DataW H) : Prop := (d = .nil ∧ ls = []) ∨ ∃ D rest, d = .slice ((List.range ls.length).map D) rest ∧ ∀ i t, ls[i]? = some t → D i = dataN t
theorem trod_four {v e : TypeId} (hv : P.underlying v = some (.array 4 e)) (ce : P.cellsOf e = 1) (ue : P.underlying e = some (.int .u64)) {W : World} {n : Nat} {a0 a1 a2 a3 : Value} {x : DataW H × List MemPlace} (h : DataW.trod enc P W 0 (fun _ => true) true n v [a0, a1, a2, a3] = some x) :
    ∃ x0 x1 x2 x3 : Int, a0 = .int .u64 x0 ∧ a1 = .int .u64 x1 ∧ a2 = .int .u64 x2 ∧ a3 = .int .u64 x3 ∧ x.1 = .agg [.lit (.int .u64 x0), .lit (.int .u64 x1), .lit (.int .u64 x2), .lit (.int .u64 x3)] ∧ word x0 ∧ word x1 ∧ word x2 ∧ word x3 := by
  obtain ⟨ys, m, _, hy, _, hlen, hg⟩ := DataW.trod_array hv h
  match ys, hlen with
  | [r0, r1, r2, r3], _ =>
    have k0 := hg 0 (by decide)
    have k1 := hg 1 (by decide)
    have k2 := hg 2 (by decide)
    have k3 := hg 3 (by decide)
    rw [ce] at k0 k1 k2 k3
    simp at k0 k1 k2 k3
    obtain ⟨b0, e0, q0, z0⟩ := DataW.trod_int ue k0
    obtain ⟨b1, e1, q1, z1⟩ := DataW.trod_int ue k1
    obtain ⟨b2, e2, q2, z2⟩ := DataW.trod_int ue k2
    obtain ⟨b3, e3, q3, z3⟩ := DataW.trod_int ue k3
    simp only [List.cons.injEq, and_true] at e0 e1 e2 e3
    have v0 := bounds_u64 z0
    have v1 := bounds_u64 z1
    have v2 := bounds_u64 z2
    have v3 := bounds_u64 z3
    refine ⟨b0, b1, b2, b3, e0, e1, e2, e3, ?_, ⟨v0.1, by omega⟩, ⟨v1.1, by omega⟩, ⟨v2.1, by omega⟩, ⟨v3.1, by omega⟩⟩
    have e := congrArg Prod.fst hy
    simp only [List.map_cons, List.map_nil] at e
    rw [e, q0, q1, q2, q3]
/-- The nine cells of one. -/
theorem trod_en {e : TypeId} {f0 f1 f2 : Field} {ev : TypeId} (he : P.underlying e = some (.struct #[f0, f1, f2])) (o0 : f0.offset = 0) (o1 : f1.offset = 1) (o2 : f2.offset = 5) (c0 : P.cellsOf f0.type = 1) (c1 : P.cellsOf f1.type = 4) (c2 : P.cellsOf f2.type = 4)
    (u0 : P.underlying f0.type = some .string) (u1 : P.underlying f1.type = some (.array 4 ev)) (u2 : P.underlying f2.type = some (.array 4 ev)) (cv : P.cellsOf ev = 1) (uv : P.underlying ev = some (.int .u64))
    {W : World} {n : Nat} {a0 a1 a2 a3 a4 a5 a6 a7 a8 : Value} {x : DataW H × List MemPlace} (h : DataW.trod enc P W 0 (fun _ => true) true n e [a0, a1, a2, a3, a4, a5, a6, a7, a8] = some x) :
    ∃ t : En, [a0, a1, a2, a3, a4, a5, a6, a7, a8] = (cellsN t).toList ∧ x.1 = dataN t ∧ t.ok := by
  obtain ⟨xs, m, _, hx, _, hlen, hg⟩ := DataW.trod_struct he h
  match xs, hlen with
  | [y0, y1, y2], _ =>
    have h0 := hg 0 f0 rfl
    have h1 := hg 1 f1 rfl
    have h2 := hg 2 f2 rfl
    rw [o0, c0] at h0
    rw [o1, c1] at h1
    rw [o2, c2] at h2
    simp at h0 h1 h2
    obtain ⟨b0, e0, q0, _⟩ := DataW.trod_string u0 h0
    obtain ⟨l0, l1, l2, l3, d1, d2, d3, d4, q1, w0, w1, w2, w3⟩ := trod_four u1 cv uv h1
    obtain ⟨v0, v1, v2, v3, d5, d6, d7, d8, q2, w4, w5, w6, w7⟩ := trod_four u2 cv uv h2
    simp only [List.cons.injEq, and_true] at e0
    subst e0 d1 d2 d3 d4 d5 d6 d7 d8
    refine ⟨⟨b0, l0, l1, l2, l3, v0, v1, v2, v3⟩, rfl, ?_, w0, w1, w2, w3, w4, w5, w6, w7⟩
    have e := congrArg Prod.fst hx
    simp only [List.map_cons, List.map_nil] at e
    rw [e, q0, q1, q2]
    rfl
/-- A slice of entries, opened. -/
theorem open_entries {t e : TypeId} {f0 f1 f2 : Field} {ev : TypeId} (ht : P.underlying t = some (.slice e)) (he : P.underlying e = some (.struct #[f0, f1, f2])) (ce : P.cellsOf e = 9) (o0 : f0.offset = 0) (o1 : f1.offset = 1) (o2 : f2.offset = 5) (c0 : P.cellsOf f0.type = 1) (c1 : P.cellsOf f1.type = 4) (c2 : P.cellsOf f2.type = 4)
    (u0 : P.underlying f0.type = some .string) (u1 : P.underlying f1.type = some (.array 4 ev)) (u2 : P.underlying f2.type = some (.array 4 ev)) (cv : P.cellsOf ev = 1) (uv : P.underlying ev = some (.int .u64))
    {W : World} {base : Nat} {v : Value} {d : DataW H} {p : List MemPlace} (hval : Value.okWide P W .any base t v) (h : DataW.Trod enc P W 0 (fun _ => true) true t v d p) : ∃ ls, NRow W v ls ∧ NsData ls d ∧ ∀ t ∈ ls, En.ok t := by
  obtain ⟨a1, len, cap, rfl⟩ := okWide_slice ht hval
  obtain ⟨fuel, hf⟩ := h
  rcases Deep.open_slice ht hf with ⟨hcs, hx⟩ | ⟨a, len', cap', m, n, D, Pl, hcs, _, hl, hm, hmm, hx, hi⟩
  · simp [Value.cells] at hcs
    obtain ⟨rfl, rfl, rfl⟩ := hcs
    simp only [Prod.mk.injEq] at hx
    exact ⟨[], NRow.nil W, .inl ⟨hx.1, rfl⟩, fun x hx => by simp at hx⟩
  · simp [Value.cells] at hcs
    obtain ⟨rfl, rfl, rfl⟩ := hcs
    simp only [if_true] at hmm
    subst hmm
    simp only [Prod.mk.injEq] at hx
    rw [ce] at hi
    have each : ∀ i, i < m → ∃ t : En, (∀ j v, (cellsN t)[j]? = some v → W.cell? (a.add (i * 9 + j)) = some v) ∧ D i = dataN t ∧ En.ok t := fun i him => by
      obtain ⟨cs', h1, h2⟩ := hi i him
      obtain ⟨_, hlen, hcell⟩ := World.cells?_some h1
      match cs', hlen, h2, hcell with
      | [w0, w1, w2, w3, w4, w5, w6, w7, w8], _, h2, hcell =>
        obtain ⟨t, e1, e2, e3⟩ := trod_en he o0 o1 o2 c0 c1 c2 u0 u1 u2 cv uv h2
        refine ⟨t, fun j v hj => ?_, e2, e3⟩
        have hjl : j < 9 := (Array.getElem?_eq_some_iff.1 hj).1
        have k0 := hcell j (by simpa using hjl)
        rw [Deep.add_add] at k0
        rw [k0]
        have h4 : (cellsN t).toList[j]? = some v := by rw [Array.getElem?_toList]; exact hj
        rw [← e1] at h4
        simpa using h4
    obtain ⟨T, hT⟩ := Deep.choose_lt (α := En) each
    have hlen : ((List.range len).map T).length = len := by simp
    refine ⟨(List.range len).map T, ?_, .inr ⟨D, _, by rw [hlen]; exact hx.1, fun i t hit => ?_⟩, fun t ht => ?_⟩
    · by_cases hz : len = 0
      · subst hz
        exact .inl ⟨rfl, _, _, rfl, hm⟩
      · obtain ⟨ab, ao, spot⟩ := a
        have h0 := (hT 0 (by omega)).1 0 _ rfl
        have hspot : spot = none := by simpa [Addr.add] using World.cell?_spot h0
        subst hspot
        refine .inr ⟨fun hn => by rw [hn] at hlen; simp at hlen; omega, ab, ao, m, by rw [hlen], World.block_lt_of_cell? (a := ⟨ab, ao, none⟩) _ (by simpa [Addr.add] using h0), by rw [hlen]; exact hl, hm, fun k x hk i v hi => ?_⟩
        obtain ⟨hk1, rfl⟩ := List.getElem?_eq_some_iff.1 hk
        rw [hlen] at hk1
        have g0 := (hT k (by omega)).1 i v (by simpa using hi)
        rw [Addr.add_lit] at g0
        rw [Nat.add_assoc]
        exact g0
    · obtain ⟨hk1, rfl⟩ := List.getElem?_eq_some_iff.1 hit
      rw [hlen] at hk1
      simp only [List.getElem_map, List.getElem_range]
      exact (hT i (by omega)).2.1
    · obtain ⟨i, hi', rfl⟩ := List.mem_map.1 ht
      exact (hT i (by have := List.mem_range.1 hi'; omega)).2.2
/-- By the reach: how many, how long. -/
theorem NsData.reach {t e : TypeId} {f0 f1 f2 : Field} {ls : List En} {d : DataW H} {B : Nat} (h : NsData ls d) (ht : P.underlying t = some (.slice e)) (he : P.underlying e = some (.struct #[f0, f1, f2])) (hby : P.bytesOf e = 80)
    (hB : ∀ n ∈ d.weights P t, n ≤ B) : ls.length * 80 ≤ B ∧ ∀ t ∈ ls, t.path.size ≤ B := by
  rcases h with ⟨_, rfl⟩ | ⟨D, rest, rfl, hD⟩
  · exact ⟨by simp, fun x hx => by simp at hx⟩
  · simp only [DataW.weights, ht, hby] at hB
    refine ⟨?_, fun t ht => ?_⟩
    · have := hB _ (List.mem_cons_self ..)
      simp only [List.length_map, List.length_range] at this
      have h2 : ls.length * 80 ≤ (ls.length + rest.length) * 80 := Nat.mul_le_mul_right _ (Nat.le_add_right _ _)
      omega
    · obtain ⟨i, hi⟩ := List.mem_iff_getElem?.1 ht
      have e' := hD i t hi
      have hil := (List.getElem?_eq_some_iff.1 hi).1
      have hm : D i ∈ (List.range ls.length).map D := List.mem_map.2 ⟨i, List.mem_range.2 hil, rfl⟩
      have hall : ∀ n ∈ (D i).weights P e, n ≤ B := fun n hn => hB n (List.mem_cons_of_mem _ (List.mem_append_left _ (weights_all hm n hn)))
      rw [e'] at hall
      unfold dataN at hall
      simp only [DataW.weights, he, List.map_cons, List.map_nil, DataW.weightsEach] at hall
      have h1 := hall t.path.data.toList.length (by simp)
      rw [Array.length_toList] at h1
      exact h1
end
end Go.Proofs.Ytbefnophkaepmaa.Quota
