/- An argument that is a slice of labels, by its bulk: what its cells hold, how many they are, how long each text is. -/
import Derived.Test.YtpkaejacnblplaaRows
import Derived.Test.YtpkaejacnblplaaLArgs
namespace Go.Proofs.Ytpkaejacnblplaa.Label
open Go.ChangeShapes Go.WideShapes Go.ChangeAt Go.RowKit

theorem bulk_mem {H : Type} {d : DataW H} : ∀ {l : List (DataW H)}, d ∈ l → Rows.uptoBulk d ≤ Rows.uptoBulkAll l
  | [], h => by cases h
  | x :: r, h => by
    simp only [Rows.uptoBulkAll]
    rcases List.mem_cons.1 h with rfl | h
    · omega
    · have := bulk_mem h; omega
theorem bulk_len {H : Type} {f : Nat → DataW H} (hf : ∀ i, 1 ≤ Rows.uptoBulk (f i)) : ∀ (l : List Nat), l.length ≤ Rows.uptoBulkAll (l.map f)
  | [] => by simp [Rows.uptoBulkAll]
  | x :: r => by
    have := bulk_len hf r
    have := hf x
    simp only [List.map_cons, Rows.uptoBulkAll, List.length_cons]
    omega

theorem open_pairs_upto {H : Type} {E : TypeId × Value → H} {P : Program} {t e : TypeId} {f0 f1 : Field} (ht : P.underlying t = some (.slice e)) (he : P.underlying e = some (.struct #[f0, f1])) (ce : P.cellsOf e = 2) (o0 : f0.offset = 0) (o1 : f1.offset = 1)
    (c0 : P.cellsOf f0.type = 1) (c1 : P.cellsOf f1.type = 1) (s0 : P.underlying f0.type = some .string) (s1 : P.underlying f1.type = some .string) {W : World} {base : Nat} {v : Value} {d : DataW H} {p : List MemPlace}
    (hval : Value.okWide P W .any base t v) (h : DataW.Trod E P W 0 (fun _ => true) true t v d p) :
    ∃ ls : List Pr, Row W v ls ∧ ls.length ≤ Rows.uptoBulk d ∧ ∀ x ∈ ls, x.1.size ≤ Rows.uptoBulk d ∧ x.2.size ≤ Rows.uptoBulk d := by
  obtain ⟨a1, len, cap, rfl⟩ := okWide_slice ht hval
  obtain ⟨fuel, hf⟩ := h
  rcases Deep.open_slice_pairs ht he ce o0 o1 c0 c1 hf with ⟨hcs, _⟩ | ⟨a, len', cap', m, n, V0, V1, D0, D1, P0, P1, hcs, _, hl, hm, hmm, hx, hi⟩
  · simp [Value.cells] at hcs
    obtain ⟨rfl, rfl, rfl⟩ := hcs
    exact ⟨[], .inl ⟨rfl, _, _, rfl, Nat.zero_le _⟩, Nat.zero_le _, fun x hx => by simp at hx⟩
  · simp [Value.cells] at hcs
    obtain ⟨rfl, rfl, rfl⟩ := hcs
    simp only [if_true] at hmm
    subst hmm
    simp only [Prod.mk.injEq] at hx
    have hlen : ((List.range len).map fun i => (strOf (V0 i), strOf (V1 i))).length = len := by simp
    have hs : ∀ i, i < m → (V0 i = .string (strOf (V0 i)) ∧ V1 i = .string (strOf (V1 i))) ∧ D0 i = .lit (.string (strOf (V0 i)).data.toList) ∧ D1 i = .lit (.string (strOf (V1 i)).data.toList) := fun i him => by
      obtain ⟨_, _, h3, h4⟩ := hi i him
      obtain ⟨x0, e0, g0, _⟩ := DataW.trod_string s0 h3
      obtain ⟨x1, e1, g1, _⟩ := DataW.trod_string s1 h4
      simp only [List.cons.injEq, and_true] at e0 e1
      simp only [Prod.mk.injEq] at g0 g1
      rw [e0, e1, g0.1, g1.1]
      exact ⟨⟨rfl, rfl⟩, rfl, rfl⟩
    have hd := hx.1
    refine ⟨(List.range len).map fun i => (strOf (V0 i), strOf (V1 i)), ?_, ?_, ?_⟩
    · by_cases hz : len = 0
      · subst hz
        exact .inl ⟨rfl, _, _, rfl, hm⟩
      · obtain ⟨ab, ao, spot⟩ := a
        have h0 := (hi 0 (by omega)).1
        have hspot : spot = none := by simpa [Addr.add] using World.cell?_spot h0
        subst hspot
        refine .inr ⟨fun hn => by rw [hn] at hlen; simp at hlen; omega, ab, ao, m, by rw [hlen], World.block_lt_of_cell? (a := ⟨ab, ao, none⟩) _ (by simpa [Addr.add] using h0), by rw [hlen]; exact hl, hm, fun k x hk => ?_⟩
        obtain ⟨hk1, rfl⟩ := List.getElem?_eq_some_iff.1 hk
        rw [hlen] at hk1
        obtain ⟨g0, g1, _, _⟩ := hi k (by omega)
        obtain ⟨⟨q0, q1⟩, _⟩ := hs k (by omega)
        rw [Addr.add_lit] at g0 g1
        simp only [List.getElem_map, List.getElem_range]
        rw [← q0, ← q1]
        exact ⟨g0, by rw [Nat.add_assoc]; exact g1⟩
    · rw [hlen, hd]
      have := bulk_len (f := fun i => DataW.agg [D0 i, D1 i]) (fun i => by simp [Rows.uptoBulk]) (List.range len)
      rw [List.length_range] at this
      simp only [Rows.uptoBulk]
      omega
    · intro x hx'
      obtain ⟨i, hir, rfl⟩ := List.mem_map.1 hx'
      have hil := List.mem_range.1 hir
      obtain ⟨_, e0, e1⟩ := hs i (by omega)
      have hb := bulk_mem (d := DataW.agg [D0 i, D1 i]) (l := (List.range len).map fun i => DataW.agg [D0 i, D1 i]) (List.mem_map.2 ⟨i, hir, rfl⟩)
      rw [e0, e1] at hb
      simp only [Rows.uptoBulk, Rows.uptoBulkAll] at hb
      rw [hd]
      simp only [Rows.uptoBulk]
      have z0 : (strOf (V0 i)).data.toList.length = (strOf (V0 i)).size := Array.length_toList
      have z1 : (strOf (V1 i)).data.toList.length = (strOf (V1 i)).size := Array.length_toList
      constructor
      · show (strOf (V0 i)).size ≤ _; omega
      · show (strOf (V1 i)).size ≤ _; omega
end Go.Proofs.Ytpkaejacnblplaa.Label
