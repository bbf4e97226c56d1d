/- Acts in memory, and as an argument: a slice of structs of two bytes, a text and a number: what its cells hold, how many they are, how long each text is; of no program. -/
import Derived.Test.YtoomanlonhnleaaTexts
import Derived.Lib.SmallJoins
namespace Go.Proofs.Ytoomanlonhnleaa.Disk
open Go.ChangeShapes Go.WideShapes Go.ChangeAt Go.RowKit Go.Proofs.Ytoomanlonhnleaa.Texts

/-- An act: what, on which file, a text, a number. -/
abbrev Ac := Int × Int × ByteArray × Int
def Ac.ok (t : Ac) : Prop := 0 ≤ t.1 ∧ t.1 ≤ 255 ∧ 0 ≤ t.2.1 ∧ t.2.1 ≤ 255 ∧ -9223372036854775808 ≤ t.2.2.2 ∧ t.2.2.2 ≤ 9223372036854775807
/-- Acts in cells. -/
def ACells (w : World) (g o : Nat) (ls : List Ac) : Prop :=
  ∀ j t, ls[j]? = some t → w.cell? ⟨g, o + j * 4, none⟩ = some (.int .u8 t.1) ∧ w.cell? ⟨g, o + j * 4 + 1, none⟩ = some (.int .u8 t.2.1) ∧ w.cell? ⟨g, o + j * 4 + 2, none⟩ = some (.string t.2.2.1) ∧ w.cell? ⟨g, o + j * 4 + 3, none⟩ = some (.int .i64 t.2.2.2)
/-- A slice of acts. -/
def ARow (w : World) (v : Value) (ls : List Ac) : Prop :=
  (ls = [] ∧ ∃ a cap, v = .slice a 0 cap ∧ cap ≤ maxLen) ∨ (ls ≠ [] ∧ ∃ g o cap, v = .slice (some ⟨g, o, none⟩) ls.length cap ∧ g < w.heap.size ∧ ls.length ≤ cap ∧ cap ≤ maxLen ∧ ACells w g o ls)
theorem ACells.below {w w' : World} {g o : Nat} {ls : List Ac} (h : ACells w g o ls) (hg : g < w.heap.size) (hb : Below w.heap.size w w') : ACells w' g o ls := fun j t hj => by
  obtain ⟨h1, h2, h3, h4⟩ := h j t hj
  rw [hb.cell (p := ⟨g, o + j * 4, none⟩) hg, hb.cell (p := ⟨g, o + j * 4 + 1, none⟩) hg, hb.cell (p := ⟨g, o + j * 4 + 2, none⟩) hg, hb.cell (p := ⟨g, o + j * 4 + 3, none⟩) hg]
  exact ⟨h1, h2, h3, h4⟩
theorem ARow.below {w w' : World} {v : Value} {ls : List Ac} (h : ARow w v ls) (hb : Below w.heap.size w w') : ARow w' v ls := by
  rcases h with h | ⟨h0, g, o, cap, h1, h2, h3, h4, h5⟩
  · exact .inl h
  · exact .inr ⟨h0, g, o, cap, h1, by have := hb.size; omega, h3, h4, h5.below h2 hb⟩
theorem ARow.slice {w : World} {v : Value} {ls : List Ac} (h : ARow w v ls) : ∃ a cap, v = .slice a ls.length cap ∧ ls.length ≤ cap ∧ cap ≤ maxLen := by
  rcases h with ⟨rfl, a, cap, rfl, hm⟩ | ⟨_, g, o, cap, rfl, _, hc, hm, _⟩
  · exact ⟨_, _, rfl, Nat.zero_le _, hm⟩
  · exact ⟨_, _, rfl, hc, hm⟩
theorem ARow.cells {w : World} {a : Option Addr} {cap k n : Nat} {ls : List Ac} (h : ARow w (.slice a n cap) ls) (hk : k < ls.length) : ∃ g o, a = some ⟨g, o, none⟩ ∧ g < w.heap.size ∧ ACells w g o ls := by
  rcases h with ⟨rfl, _⟩ | ⟨_, g, o, cap', hsl, hg, _, _, hcell⟩
  · simp at hk
  · injection hsl with h1 _ _
    exact ⟨g, o, h1, hg, hcell⟩
theorem ARow.nil (w : World) : ARow w (.slice none 0 0) [] := .inl ⟨rfl, _, _, rfl, Nat.zero_le _⟩

section
variable {H : Type} {enc : TypeId × Value → H} {P : Program}

/-- What is read of an act. -/
def AData (t : Ac) (d : DataW H) : Prop := d = .agg [.lit (.int .u8 t.1), .lit (.int .u8 t.2.1), .lit (.string t.2.2.1.data.toList), .lit (.int .i64 t.2.2.2)]
/-- What is read of acts. -/
def AsData (ls : List Ac) (d : DataW H) : Prop := (d = .nil ∧ ls = []) ∨ ∃ D rest, d = .slice ((List.range ls.length).map D) rest ∧ ∀ i t, ls[i]? = some t → AData t (D i)

/-- An argument of acts, opened. -/
theorem open_acts {t e : TypeId} {f0 f1 f2 f3 : Field} (ht : P.underlying t = some (.slice e)) (he : P.underlying e = some (.struct #[f0, f1, f2, f3])) (ce : P.cellsOf e = 4)
    (o0 : f0.offset = 0) (o1 : f1.offset = 1) (o2 : f2.offset = 2) (o3 : f3.offset = 3) (c0 : P.cellsOf f0.type = 1) (c1 : P.cellsOf f1.type = 1) (c2 : P.cellsOf f2.type = 1) (c3 : P.cellsOf f3.type = 1)
    (u0 : P.underlying f0.type = some (.int .u8)) (u1 : P.underlying f1.type = some (.int .u8)) (u2 : P.underlying f2.type = some .string) (u3 : P.underlying f3.type = some (.int .i64))
    {W : World} {base : Nat} {v : Value} {d : DataW H} {p : List MemPlace} (hval : Value.okWide P W .any base t v) (h : DataW.Trod enc P W 0 (fun _ => true) true t v d p) : ∃ ls, ARow W v ls ∧ AsData ls d ∧ ∀ t ∈ ls, Ac.ok t := by
  obtain ⟨a1, len, cap, rfl⟩ := okWide_slice ht hval
  obtain ⟨fuel, hf⟩ := h
  rcases Deep.open_slice ht hf with ⟨hcs, hx⟩ | ⟨a, len', cap', m, n, D, Pl, hcs, _, hl, hm, hmm, hx, hi⟩
  · simp [Value.cells] at hcs
    obtain ⟨rfl, rfl, rfl⟩ := hcs
    simp only [Prod.mk.injEq] at hx
    exact ⟨[], ARow.nil W, .inl ⟨hx.1, rfl⟩, fun x hx => by simp at hx⟩
  · simp [Value.cells] at hcs
    obtain ⟨rfl, rfl, rfl⟩ := hcs
    simp only [if_true] at hmm
    subst hmm
    simp only [Prod.mk.injEq] at hx
    rw [ce] at hi
    have each : ∀ i, i < m → ∃ t : Ac, (W.cell? (a.add (i * 4)) = some (.int .u8 t.1) ∧ W.cell? (a.add (i * 4 + 1)) = some (.int .u8 t.2.1) ∧ W.cell? (a.add (i * 4 + 2)) = some (.string t.2.2.1) ∧ W.cell? (a.add (i * 4 + 3)) = some (.int .i64 t.2.2.2)) ∧ AData t (D i) ∧ Ac.ok t := fun i him => by
      obtain ⟨cs', h1, h2⟩ := hi i him
      obtain ⟨_, hlen, hcell⟩ := World.cells?_some h1
      obtain ⟨y0, y1, y2, y3, k, hy, _, g0, g1, g2, g3⟩ := Go.Joins.trod_struct4 he h2
      match cs', hlen with
      | [w0, w1, w2, w3], _ =>
        rw [o0, c0] at g0
        rw [o1, c1] at g1
        rw [o2, c2] at g2
        rw [o3, c3] at g3
        simp at g0 g1 g2 g3
        obtain ⟨b0, e0, q0, z0⟩ := DataW.trod_int u0 g0
        obtain ⟨b1, e1, q1, z1⟩ := DataW.trod_int u1 g1
        obtain ⟨b2, e2, q2, _⟩ := DataW.trod_string u2 g2
        obtain ⟨b3, e3, q3, z3⟩ := DataW.trod_int u3 g3
        simp only [List.cons.injEq, and_true] at e0 e1 e2 e3
        have k0 := hcell 0 (by omega)
        have k1 := hcell 1 (by omega)
        have k2 := hcell 2 (by omega)
        have k3 := hcell 3 (by omega)
        rw [Deep.add_add] at k0 k1 k2 k3
        simp only [Prod.mk.injEq] at hy
        have v0 := bounds_u8 z0
        have v1 := bounds_u8 z1
        have v3 := bounds_i64 z3
        refine ⟨(b0, b1, b2, b3), ⟨by simpa [e0] using k0, by simpa [e1] using k1, by simpa [e2] using k2, by simpa [e3] using k3⟩, ?_, v0.1, v0.2, v1.1, v1.2, v3.1, v3.2⟩
        unfold AData
        rw [hy.1, q0, q1, q2, q3]
    obtain ⟨T, hT⟩ := Deep.choose_lt (α := Ac) each
    have hlen : ((List.range len).map T).length = len := by simp
    refine ⟨(List.range len).map T, ?_, .inr ⟨D, _, by rw [hlen]; exact hx.1, fun i t hit => ?_⟩, fun t ht => ?_⟩
    · by_cases hz : len = 0
      · subst hz
        exact .inl ⟨rfl, _, _, rfl, hm⟩
      · obtain ⟨ab, ao, spot⟩ := a
        have h0 := (hT 0 (by omega)).1.1
        have hspot : spot = none := by simpa [Addr.add] using World.cell?_spot h0
        subst hspot
        refine .inr ⟨fun hn => by rw [hn] at hlen; simp at hlen; omega, ab, ao, m, by rw [hlen], World.block_lt_of_cell? (a := ⟨ab, ao, none⟩) _ (by simpa [Addr.add] using h0), by rw [hlen]; exact hl, hm, fun k x hk => ?_⟩
        obtain ⟨hk1, rfl⟩ := List.getElem?_eq_some_iff.1 hk
        rw [hlen] at hk1
        obtain ⟨⟨g0, g1, g2, g3⟩, _⟩ := hT k (by omega)
        rw [Addr.add_lit] at g0 g1 g2 g3
        simp only [List.getElem_map, List.getElem_range]
        exact ⟨g0, by rw [Nat.add_assoc]; exact g1, by rw [Nat.add_assoc]; exact g2, by rw [Nat.add_assoc]; exact g3⟩
    · obtain ⟨hk1, rfl⟩ := List.getElem?_eq_some_iff.1 hit
      rw [hlen] at hk1
      simp only [List.getElem_map, List.getElem_range]
      exact (hT i (by omega)).2.1
    · obtain ⟨i, hi', rfl⟩ := List.mem_map.1 ht
      exact (hT i (by have := List.mem_range.1 hi'; omega)).2.2

/-- By the bulk: how many, how long. -/
theorem AsData.bulk {ls : List Ac} {d : DataW H} (h : AsData ls d) : ls.length ≤ Rows.uptoBulk d ∧ ∀ t ∈ ls, t.2.2.1.size ≤ Rows.uptoBulk d := by
  rcases h with ⟨_, rfl⟩ | ⟨D, rest, rfl, hD⟩
  · exact ⟨by simp, fun x hx => by simp at hx⟩
  · simp only [Rows.uptoBulk]
    refine ⟨?_, fun t ht => ?_⟩
    · have := bulk_len ((List.range ls.length).map D)
      simp at this
      omega
    · obtain ⟨i, hi⟩ := List.mem_iff_getElem?.1 ht
      have e := hD i t hi
      have hil := (List.getElem?_eq_some_iff.1 hi).1
      have hm : D i ∈ (List.range ls.length).map D := List.mem_map.2 ⟨i, List.mem_range.2 hil, rfl⟩
      have h1 := bulk_mem hm
      rw [e] at h1
      simp only [Rows.uptoBulk, Rows.uptoBulkAll] at h1
      have h2 : t.2.2.1.data.toList.length = t.2.2.1.size := Array.length_toList
      omega
/-- By the reach: how many, how long. -/
theorem AsData.reach {t e : TypeId} {f0 f1 f2 f3 : Field} {ls : List Ac} {d : DataW H} {B : Nat} (h : AsData ls d) (ht : P.underlying t = some (.slice e)) (he : P.underlying e = some (.struct #[f0, f1, f2, f3])) (hby : P.bytesOf e = 32)
    (hB : ∀ n ∈ d.weights P t, n ≤ B) : ls.length * 32 ≤ B ∧ ∀ t ∈ ls, t.2.2.1.size ≤ B := by
  rcases h with ⟨_, rfl⟩ | ⟨D, rest, rfl, hD⟩
  · exact ⟨by simp, fun x hx => by simp at hx⟩
  · simp only [DataW.weights, ht, hby] at hB
    refine ⟨?_, fun t ht => ?_⟩
    · have := hB _ (List.mem_cons_self ..)
      simp only [List.length_map, List.length_range] at this
      have h2 : ls.length * 32 ≤ (ls.length + rest.length) * 32 := Nat.mul_le_mul_right _ (Nat.le_add_right _ _)
      omega
    · obtain ⟨i, hi⟩ := List.mem_iff_getElem?.1 ht
      have e' := hD i t hi
      have hil := (List.getElem?_eq_some_iff.1 hi).1
      have hm : D i ∈ (List.range ls.length).map D := List.mem_map.2 ⟨i, List.mem_range.2 hil, rfl⟩
      have hall : ∀ n ∈ (D i).weights P e, n ≤ B := fun n hn => hB n (List.mem_cons_of_mem _ (List.mem_append_left _ (weights_all hm n hn)))
      rw [e'] at hall
      simp only [DataW.weights, he, List.map_cons, List.map_nil, DataW.weightsEach] at hall
      have h1 := hall t.2.2.1.data.toList.length (by simp)
      rw [Array.length_toList] at h1
      exact h1
end
end Go.Proofs.Ytoomanlonhnleaa.Disk
