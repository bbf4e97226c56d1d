/- An argument that is a slice of labels: what its cells hold. -/
import Derived.Test.YtcgknkbigbbfdaaDoorLRow
import Derived.ProofKit
import Derived.OpenShut
import Derived.SizedLaws
import Derived.Deep.SlicePairs
namespace Go.Proofs.YtcgknkbigbbfdaaDoor.Label
open Go.ChangeShapes Go.WideShapes Go.ChangeAt Go.RowKit

def strOf : Value → ByteArray
  | .string s => s
  | _ => ⟨#[]⟩

theorem open_pairs {H : Type} {E : TypeId × Value → H} {P : Program} {t e : TypeId} {f0 f1 : Field} (ht : P.underlying t = some (.slice e)) (he : P.underlying e = some (.struct #[f0, f1])) (ce : P.cellsOf e = 2) (o0 : f0.offset = 0) (o1 : f1.offset = 1)
    (c0 : P.cellsOf f0.type = 1) (c1 : P.cellsOf f1.type = 1) (s0 : P.underlying f0.type = some .string) (s1 : P.underlying f1.type = some .string) (hby : P.bytesOf e = 32) {W : World} {base : Nat} {v : Value} {d : DataW H} {p : List MemPlace}
    {ts : List TypeId} {ds : List (DataW H)} (hsz : (DataW.weightsEach P ts ds).all (· ≤ reachBytes) = true) {j : Nat} (htj : ts[j]? = some t) (hdj : ds[j]? = some d)
    (hval : Value.okWide P W .any base t v) (h : DataW.Trod E P W 0 (fun _ => true) true t v d p) : ∃ ls : List Pr, Row W v ls ∧ ls.length ≤ 4398046511104 := by
  obtain ⟨a1, len, cap, rfl⟩ := okWide_slice ht hval
  obtain ⟨fuel, hf⟩ := h
  rcases Deep.open_slice_pairs ht he ce o0 o1 c0 c1 hf with ⟨hcs, _⟩ | ⟨a, len', cap', m, n, V0, V1, D0, D1, P0, P1, hcs, _, hl, hm, hmm, hx, hi⟩
  · simp [Value.cells] at hcs
    obtain ⟨rfl, rfl, rfl⟩ := hcs
    exact ⟨[], .inl ⟨rfl, _, _, rfl, Nat.zero_le _⟩, Nat.zero_le _⟩
  · simp [Value.cells] at hcs
    obtain ⟨rfl, rfl, rfl⟩ := hcs
    simp only [if_true] at hmm
    subst hmm
    simp only [Prod.mk.injEq] at hx
    have hlen : ((List.range len).map fun i => (strOf (V0 i), strOf (V1 i))).length = len := by simp
    refine ⟨(List.range len).map fun i => (strOf (V0 i), strOf (V1 i)), ?_, ?_⟩
    · by_cases hz : len = 0
      · subst hz
        exact .inl ⟨rfl, _, _, rfl, hm⟩
      · have hs : ∀ i, i < m → V0 i = .string (strOf (V0 i)) ∧ V1 i = .string (strOf (V1 i)) := fun i him => by
          obtain ⟨_, _, h3, h4⟩ := hi i him
          obtain ⟨x0, e0, _⟩ := DataW.trod_string s0 h3
          obtain ⟨x1, e1, _⟩ := DataW.trod_string s1 h4
          simp only [List.cons.injEq, and_true] at e0 e1
          rw [e0, e1]
          exact ⟨rfl, rfl⟩
        obtain ⟨ab, ao, spot⟩ := a
        have h0 := (hi 0 (by omega)).1
        have hspot : spot = none := by simpa [Addr.add] using World.cell?_spot h0
        subst hspot
        refine .inr ⟨fun hn => by rw [hn] at hlen; simp at hlen; omega, ab, ao, m, by rw [hlen], World.block_lt_of_cell? (a := ⟨ab, ao, none⟩) _ (by simpa [Addr.add] using h0), by rw [hlen]; exact hl, hm, fun k x hk => ?_⟩
        obtain ⟨hk1, rfl⟩ := List.getElem?_eq_some_iff.1 hk
        rw [hlen] at hk1
        obtain ⟨g0, g1, _, _⟩ := hi k (by omega)
        obtain ⟨q0, q1⟩ := hs k (by omega)
        rw [Addr.add_lit] at g0 g1
        simp only [List.getElem_map, List.getElem_range]
        rw [← q0, ← q1]
        exact ⟨g0, by rw [Nat.add_assoc]; exact g1⟩
    · rw [hlen]
      have := sized_slice hsz htj (hx.1 ▸ hdj) ht
      rw [hby] at this
      simp at this
      have hr : reachBytes < 2 ^ 47 := reachBytes_lt
      omega
end Go.Proofs.YtcgknkbigbbfdaaDoor.Label
