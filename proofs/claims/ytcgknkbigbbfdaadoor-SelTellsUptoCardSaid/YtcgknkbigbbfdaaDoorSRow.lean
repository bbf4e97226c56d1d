/- Selectors in memory, and as arguments: a slice of terms, each a text, a bool and a slice of texts; of no program. -/
import Derived.Test.YtcgknkbigbbfdaaDoorTexts
import Derived.Test.YtcgknkbigbbfdaaDoorSMath
namespace Go.Proofs.YtcgknkbigbbfdaaDoor.Sel
open Go.ChangeShapes Go.WideShapes Go.ChangeAt Go.RowKit Go.Proofs.YtcgknkbigbbfdaaDoor.Texts

/-- Terms in cells. -/
def TCells (w : World) (g o : Nat) (ls : List Tm) : Prop :=
  ∀ j t, ls[j]? = some t → w.cell? ⟨g, o + j * 3, none⟩ = some (.string t.1) ∧ w.cell? ⟨g, o + j * 3 + 1, none⟩ = some (.bool t.2.1) ∧ ∃ v, w.cell? ⟨g, o + j * 3 + 2, none⟩ = some v ∧ SRow w v t.2.2
/-- A slice of terms. -/
def TRow (w : World) (v : Value) (ls : List Tm) : Prop :=
  (ls = [] ∧ ∃ a cap, v = .slice a 0 cap ∧ cap ≤ maxLen) ∨ (ls ≠ [] ∧ ∃ g o cap, v = .slice (some ⟨g, o, none⟩) ls.length cap ∧ g < w.heap.size ∧ ls.length ≤ cap ∧ cap ≤ maxLen ∧ TCells w g o ls)
theorem TCells.below {w w' : World} {g o : Nat} {ls : List Tm} (h : TCells w g o ls) (hg : g < w.heap.size) (hb : Below w.heap.size w w') : TCells w' g o ls := fun j t hj => by
  obtain ⟨h1, h2, v, h3, h4⟩ := h j t hj
  rw [hb.cell (p := ⟨g, o + j * 3, none⟩) hg, hb.cell (p := ⟨g, o + j * 3 + 1, none⟩) hg]
  exact ⟨h1, h2, v, by rw [hb.cell (p := ⟨g, o + j * 3 + 2, none⟩) hg]; exact h3, h4.below hb⟩
theorem TRow.below {w w' : World} {v : Value} {ls : List Tm} (h : TRow w v ls) (hb : Below w.heap.size w w') : TRow w' v ls := by
  rcases h with h | ⟨h0, g, o, cap, h1, h2, h3, h4, h5⟩
  · exact .inl h
  · exact .inr ⟨h0, g, o, cap, h1, by have := hb.size; omega, h3, h4, h5.below h2 hb⟩
theorem TRow.slice {w : World} {v : Value} {ls : List Tm} (h : TRow w v ls) : ∃ a cap, v = .slice a ls.length cap ∧ ls.length ≤ cap ∧ cap ≤ maxLen := by
  rcases h with ⟨rfl, a, cap, rfl, hm⟩ | ⟨_, g, o, cap, rfl, _, hc, hm, _⟩
  · exact ⟨_, _, rfl, Nat.zero_le _, hm⟩
  · exact ⟨_, _, rfl, hc, hm⟩
theorem TRow.cells {w : World} {a : Option Addr} {cap k n : Nat} {ls : List Tm} (h : TRow w (.slice a n cap) ls) (hk : k < ls.length) : ∃ g o, a = some ⟨g, o, none⟩ ∧ g < w.heap.size ∧ TCells w g o ls := by
  rcases h with ⟨rfl, _⟩ | ⟨_, g, o, cap', hsl, hg, _, _, hcell⟩
  · simp at hk
  · injection hsl with h1 _ _
    exact ⟨g, o, h1, hg, hcell⟩
theorem TRow.nil (w : World) : TRow w (.slice none 0 0) [] := .inl ⟨rfl, _, _, rfl, Nat.zero_le _⟩

section
variable {H : Type} {enc : TypeId × Value → H} {P : Program}

/-- What is read of a term. -/
def TData (t : Tm) (d : DataW H) : Prop := ∃ dv, d = .agg [.lit (.string t.1.data.toList), .lit (.bool t.2.1), dv] ∧ ReadS t.2.2 dv
/-- What is read of a selector. -/
def LData (ls : List Tm) (d : DataW H) : Prop := (d = .nil ∧ ls = []) ∨ ∃ D rest, d = .slice ((List.range ls.length).map D) rest ∧ ∀ i t, ls[i]? = some t → TData t (D i)

/-- An argument of terms, opened. -/
theorem open_terms {t e ts es : TypeId} {f0 f1 f2 : Field} (ht : P.underlying t = some (.slice e)) (he : P.underlying e = some (.struct #[f0, f1, f2])) (ce : P.cellsOf e = 3)
    (o0 : f0.offset = 0) (o1 : f1.offset = 1) (o2 : f2.offset = 2) (c0 : P.cellsOf f0.type = 1) (c1 : P.cellsOf f1.type = 1) (c2 : P.cellsOf f2.type = 1)
    (u0 : P.underlying f0.type = some .string) (u1 : P.underlying f1.type = some .bool) (u2 : f2.type = ts) (us : P.underlying ts = some (.slice es)) (ue : P.underlying es = some .string) (ces : P.cellsOf es = 1)
    {W : World} {base : Nat} {v : Value} {d : DataW H} {p : List MemPlace} (hval : Value.okWide P W .any base t v) (h : DataW.Trod enc P W 0 (fun _ => true) true t v d p) : ∃ ls, TRow W v ls ∧ LData ls d := by
  obtain ⟨a1, len, cap, rfl⟩ := okWide_slice ht hval
  obtain ⟨fuel, hf⟩ := h
  rcases Deep.open_slice ht hf with ⟨hcs, hx⟩ | ⟨a, len', cap', m, n, D, Pl, hcs, _, hl, hm, hmm, hx, hi⟩
  · simp [Value.cells] at hcs
    obtain ⟨rfl, rfl, rfl⟩ := hcs
    simp only [Prod.mk.injEq] at hx
    exact ⟨[], TRow.nil W, .inl ⟨hx.1, rfl⟩⟩
  · simp [Value.cells] at hcs
    obtain ⟨rfl, rfl, rfl⟩ := hcs
    simp only [if_true] at hmm
    subst hmm
    simp only [Prod.mk.injEq] at hx
    rw [ce] at hi
    have each : ∀ i, i < m → ∃ t : Tm, (W.cell? (a.add (i * 3)) = some (.string t.1) ∧ W.cell? (a.add (i * 3 + 1)) = some (.bool t.2.1) ∧ ∃ v, W.cell? (a.add (i * 3 + 2)) = some v ∧ SRow W v t.2.2) ∧ TData t (D i) := fun i him => by
      obtain ⟨cs', h1, h2⟩ := hi i him
      obtain ⟨_, hlen, hcell⟩ := World.cells?_some h1
      obtain ⟨y0, y1, y2, k, hy, _, g0, g1, g2⟩ := Deep.trod_struct3 he h2
      match cs', hlen with
      | [w0, w1, w2], _ =>
        rw [o0, c0] at g0
        rw [o1, c1] at g1
        rw [o2, c2, u2] at g2
        simp at g0 g1 g2
        obtain ⟨b0, e0, q0, _⟩ := DataW.trod_string u0 g0
        obtain ⟨b1, e1, q1⟩ := DataW.trod_bool u1 g1
        obtain ⟨vs, hs, hd⟩ := open_cells us ue ces g2
        simp only [List.cons.injEq, and_true] at e0 e1
        have k0 := hcell 0 (by omega)
        have k1 := hcell 1 (by omega)
        have k2 := hcell 2 (by omega)
        rw [Deep.add_add] at k0 k1 k2
        simp only [Prod.mk.injEq] at hy
        refine ⟨(b0, b1, vs), ⟨by simpa [e0] using k0, by simpa [e1] using k1, w2, by simpa using k2, hs⟩, y2.1, ?_, hd⟩
        rw [hy.1, q0, q1]
    obtain ⟨T, hT⟩ := Deep.choose_lt (α := Tm) each
    have hlen : ((List.range len).map T).length = len := by simp
    refine ⟨(List.range len).map T, ?_, .inr ⟨D, _, by rw [hlen]; exact hx.1, fun i t hit => ?_⟩⟩
    · by_cases hz : len = 0
      · subst hz
        exact .inl ⟨rfl, _, _, rfl, hm⟩
      · obtain ⟨ab, ao, spot⟩ := a
        have h0 := (hT 0 (by omega)).1.1
        have hspot : spot = none := by simpa [Addr.add] using World.cell?_spot h0
        subst hspot
        refine .inr ⟨fun hn => by rw [hn] at hlen; simp at hlen; omega, ab, ao, m, by rw [hlen], World.block_lt_of_cell? (a := ⟨ab, ao, none⟩) _ (by simpa [Addr.add] using h0), by rw [hlen]; exact hl, hm, fun k x hk => ?_⟩
        obtain ⟨hk1, rfl⟩ := List.getElem?_eq_some_iff.1 hk
        rw [hlen] at hk1
        obtain ⟨⟨g0, g1, v, g2, g3⟩, _⟩ := hT k (by omega)
        rw [Addr.add_lit] at g0 g1 g2
        simp only [List.getElem_map, List.getElem_range]
        exact ⟨g0, by rw [Nat.add_assoc]; exact g1, v, by rw [Nat.add_assoc]; exact g2, g3⟩
    · obtain ⟨hk1, rfl⟩ := List.getElem?_eq_some_iff.1 hit
      rw [hlen] at hk1
      simp only [List.getElem_map, List.getElem_range]
      exact (hT i (by omega)).2

/-- By the bulk: how many, how long. -/
theorem LData.bulk {ls : List Tm} {d : DataW H} (h : LData ls d) : ls.length ≤ Rows.uptoBulk d ∧ ∀ t ∈ ls, t.1.size ≤ Rows.uptoBulk d ∧ t.2.2.length ≤ Rows.uptoBulk d ∧ ∀ x ∈ t.2.2, x.size ≤ Rows.uptoBulk d := by
  rcases h with ⟨_, rfl⟩ | ⟨D, rest, rfl, hD⟩
  · exact ⟨by simp, fun x hx => by simp at hx⟩
  · simp only [Rows.uptoBulk]
    refine ⟨?_, fun t ht => ?_⟩
    · have := bulk_len ((List.range ls.length).map D)
      simp at this
      omega
    · obtain ⟨i, hi⟩ := List.mem_iff_getElem?.1 ht
      obtain ⟨dv, e, hd⟩ := hD i t hi
      have hil := (List.getElem?_eq_some_iff.1 hi).1
      have hm : D i ∈ (List.range ls.length).map D := List.mem_map.2 ⟨i, List.mem_range.2 hil, rfl⟩
      have h1 := bulk_mem hm
      rw [e] at h1
      simp only [Rows.uptoBulk, Rows.uptoBulkAll] at h1
      have h2 : t.1.data.toList.length = t.1.size := Array.length_toList
      obtain ⟨h3, h4⟩ := hd.bulk
      exact ⟨by omega, by omega, fun x hx => by have := h4 x hx; omega⟩
/-- By the reach: how many, how long. -/
theorem LData.reach {t e ts es : TypeId} {f0 f1 f2 : Field} {ls : List Tm} {d : DataW H} {B : Nat} (h : LData ls d) (ht : P.underlying t = some (.slice e)) (he : P.underlying e = some (.struct #[f0, f1, f2])) (hby : P.bytesOf e = 48) (u2 : f2.type = ts) (us : P.underlying ts = some (.slice es)) (hbs : P.bytesOf es = 16)
    (hB : ∀ n ∈ d.weights P t, n ≤ B) : ls.length * 48 ≤ B ∧ ∀ t ∈ ls, t.1.size ≤ B ∧ t.2.2.length * 16 ≤ B ∧ ∀ x ∈ t.2.2, x.size ≤ B := by
  rcases h with ⟨_, rfl⟩ | ⟨D, rest, rfl, hD⟩
  · exact ⟨by simp, fun x hx => by simp at hx⟩
  · simp only [DataW.weights, ht, hby] at hB
    refine ⟨?_, fun t ht => ?_⟩
    · have := hB _ (List.mem_cons_self ..)
      simp only [List.length_map, List.length_range] at this
      have h2 : ls.length * 48 ≤ (ls.length + rest.length) * 48 := Nat.mul_le_mul_right _ (Nat.le_add_right _ _)
      omega
    · obtain ⟨i, hi⟩ := List.mem_iff_getElem?.1 ht
      obtain ⟨dv, e', hd⟩ := hD i t hi
      have hil := (List.getElem?_eq_some_iff.1 hi).1
      have hm : D i ∈ (List.range ls.length).map D := List.mem_map.2 ⟨i, List.mem_range.2 hil, rfl⟩
      have hall : ∀ n ∈ (D i).weights P e, n ≤ B := fun n hn => hB n (List.mem_cons_of_mem _ (List.mem_append_left _ (weights_all hm n hn)))
      rw [e'] at hall
      simp only [DataW.weights, he, List.map_cons, List.map_nil, DataW.weightsEach] at hall
      have h1 := hall t.1.data.toList.length (by simp)
      rw [Array.length_toList] at h1
      have h2 := hd.reach (t := ts) us hbs (fun n hn => hall n (by rw [← u2] at hn; simp [hn]))
      exact ⟨h1, h2.1, h2.2⟩
end
end Go.Proofs.YtcgknkbigbbfdaaDoor.Sel
