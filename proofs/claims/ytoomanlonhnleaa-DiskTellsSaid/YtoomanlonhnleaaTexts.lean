/- Slices of texts in memory, and as arguments: what their cells hold, how long they are; of no program. -/
import Derived.Test.YtoomanlonhnleaaRows
import Derived.ProofKit
import Derived.OpenShut
import Derived.SizedLaws
import Derived.Below
import Derived.WalkKit
import Derived.Deep.Strs
namespace Go.Proofs.Ytoomanlonhnleaa.Texts
open Go.ChangeShapes Go.WideShapes Go.ChangeAt Go.RowKit

/-- Texts in cells. -/
def SCells (w : World) (g o : Nat) (ts : List ByteArray) : Prop := ∀ j t, ts[j]? = some t → w.cell? ⟨g, o + j, none⟩ = some (.string t)
/-- A slice of texts. -/
def SRow (w : World) (v : Value) (ts : List ByteArray) : Prop :=
  (ts = [] ∧ ∃ a cap, v = .slice a 0 cap ∧ cap ≤ maxLen) ∨ (ts ≠ [] ∧ ∃ g o cap, v = .slice (some ⟨g, o, none⟩) ts.length cap ∧ g < w.heap.size ∧ ts.length ≤ cap ∧ cap ≤ maxLen ∧ SCells w g o ts)
theorem SCells.below {w w' : World} {g o : Nat} {ts : List ByteArray} (h : SCells w g o ts) (hg : g < w.heap.size) (hb : Below w.heap.size w w') : SCells w' g o ts := fun j t hj => by
  rw [hb.cell (p := ⟨g, o + j, none⟩) hg]
  exact h j t hj
theorem SRow.below {w w' : World} {v : Value} {ts : List ByteArray} (h : SRow w v ts) (hb : Below w.heap.size w w') : SRow w' v ts := by
  rcases h with h | ⟨h0, g, o, cap, h1, h2, h3, h4, h5⟩
  · exact .inl h
  · exact .inr ⟨h0, g, o, cap, h1, by have := hb.size; omega, h3, h4, h5.below h2 hb⟩
theorem SRow.slice {w : World} {v : Value} {ts : List ByteArray} (h : SRow w v ts) : ∃ a cap, v = .slice a ts.length cap ∧ ts.length ≤ cap ∧ cap ≤ maxLen := by
  rcases h with ⟨rfl, a, cap, rfl, hm⟩ | ⟨_, g, o, cap, rfl, _, hc, hm, _⟩
  · exact ⟨_, _, rfl, Nat.zero_le _, hm⟩
  · exact ⟨_, _, rfl, hc, hm⟩
theorem SRow.cells {w : World} {a : Option Addr} {cap k n : Nat} {ts : List ByteArray} (h : SRow w (.slice a n cap) ts) (hk : k < ts.length) : ∃ g o, a = some ⟨g, o, none⟩ ∧ g < w.heap.size ∧ SCells w g o ts := by
  rcases h with ⟨rfl, _⟩ | ⟨_, g, o, cap', hsl, hg, _, _, hcell⟩
  · simp at hk
  · injection hsl with h1 _ _
    exact ⟨g, o, h1, hg, hcell⟩
theorem SRow.nil (w : World) : SRow w (.slice none 0 0) [] := .inl ⟨rfl, _, _, rfl, Nat.zero_le _⟩

def svals (ts : List ByteArray) : List Value := ts.map fun t => .string t
theorem svals_snoc (ts : List ByteArray) (t : ByteArray) : svals (ts ++ [t]) = svals ts ++ [.string t] := by simp [svals]
theorem own_srow {B : Nat} {T : TypeId} {w : World} {v : Value} {ts : List ByteArray} (h : w.ownsRow B T 1 v ts.length (svals ts)) : SRow w v ts := by
  have hc := fun g hg => h.cells (g := g) hg
  rcases h.2 with ⟨rfl, h0⟩ | ⟨g, cap, cur, rfl, hB, hg, hcap, hm, hsz, htake⟩
  · rw [List.eq_nil_of_length_eq_zero h0]; exact SRow.nil w
  · by_cases hl : ts = []
    · subst hl; exact .inl ⟨rfl, _, _, rfl, hm⟩
    · refine .inr ⟨hl, g, 0, cap, rfl, (Array.getElem?_eq_some_iff.1 hg).1, hcap, hm, fun j x hj => ?_⟩
      have e0 := hc g rfl j (.string x) (by unfold svals; rw [List.getElem?_map, hj]; rfl)
      rw [Addr.add_lit] at e0
      exact e0

section
variable {H : Type} {enc : TypeId × Value → H} {P : Program}

/-- What is read of texts. -/
def ReadS (ts : List ByteArray) (d : DataW H) : Prop := (d = .nil ∧ ts = []) ∨ ∃ rest, d = .slice (ts.map fun t => .lit (.string t.data.toList)) rest

theorem open_cells {t e : TypeId} (ht : P.underlying t = some (.slice e)) (he : P.underlying e = some .string) (hc : P.cellsOf e = 1) {W : World} {n : Nat} {v : Value} {x : DataW H × List MemPlace}
    (h : DataW.trod enc P W 0 (fun _ => true) true n t [v] = some x) : ∃ ts, SRow W v ts ∧ ReadS ts x.1 := by
  rcases Deep.open_strs ht he hc h with ⟨hcs, hx⟩ | ⟨a, len, cap, m, S, hcs, _, hl, hm, hmm, hx, hi⟩
  · simp only [List.cons.injEq, and_true] at hcs
    subst hcs
    exact ⟨[], SRow.nil W, .inl ⟨by rw [hx], rfl⟩⟩
  · simp only [List.cons.injEq, and_true] at hcs
    subst hcs
    simp only [if_true] at hmm
    subst hmm
    have hlen : ((List.range len).map S).length = len := by simp
    refine ⟨(List.range len).map S, ?_, .inr ⟨_, by rw [hx, List.map_map]; rfl⟩⟩
    by_cases hz : len = 0
    · subst hz
      exact .inl ⟨rfl, _, _, rfl, hm⟩
    · obtain ⟨ab, ao, spot⟩ := a
      have h0 := (hi 0 (by omega)).1
      have hspot : spot = none := by simpa [Addr.add] using World.cell?_spot h0
      subst hspot
      refine .inr ⟨fun hn => by rw [hn] at hlen; simp at hlen; omega, ab, ao, m, by rw [hlen], World.block_lt_of_cell? (a := ⟨ab, ao, none⟩) _ (by simpa [Addr.add] using h0), by rw [hlen]; exact hl, hm, fun k x hk => ?_⟩
      obtain ⟨hk1, rfl⟩ := List.getElem?_eq_some_iff.1 hk
      rw [hlen] at hk1
      have g0 := (hi k (by omega)).1
      rw [Addr.add_lit] at g0
      simp only [List.getElem_map, List.getElem_range]
      exact g0
/-- An argument of texts, opened. -/
theorem open_texts {t e : TypeId} (ht : P.underlying t = some (.slice e)) (he : P.underlying e = some .string) (hc : P.cellsOf e = 1) {W : World} {base : Nat} {v : Value} {d : DataW H} {p : List MemPlace}
    (hval : Value.okWide P W .any base t v) (h : DataW.Trod enc P W 0 (fun _ => true) true t v d p) : ∃ ts, SRow W v ts ∧ ReadS ts d := by
  obtain ⟨a1, len, cap, rfl⟩ := okWide_slice ht hval
  obtain ⟨fuel, hf⟩ := h
  exact open_cells ht he hc hf

theorem weights_all {e : TypeId} {d : DataW H} : ∀ {l : List (DataW H)}, d ∈ l → ∀ n ∈ d.weights P e, n ∈ DataW.weightsAll P e l
  | [], h, _, _ => by cases h
  | x :: r, h, n, hn => by
    simp only [DataW.weightsAll, List.mem_append]
    rcases List.mem_cons.1 h with rfl | h
    · exact .inl hn
    · exact .inr (weights_all h n hn)
/-- By the reach: how many, how long. -/
theorem ReadS.reach {t e : TypeId} {ts : List ByteArray} {d : DataW H} {B : Nat} (h : ReadS ts d) (ht : P.underlying t = some (.slice e)) (hby : P.bytesOf e = 16) (hB : ∀ n ∈ d.weights P t, n ≤ B) : ts.length * 16 ≤ B ∧ ∀ x ∈ ts, x.size ≤ B := by
  rcases h with ⟨_, rfl⟩ | ⟨rest, rfl⟩
  · exact ⟨by simp, fun x hx => by simp at hx⟩
  · simp only [DataW.weights, ht, hby] at hB
    refine ⟨?_, fun x hx => ?_⟩
    · have := hB _ (List.mem_cons_self ..)
      simp only [List.length_map] at this
      have h2 : ts.length * 16 ≤ (ts.length + rest.length) * 16 := Nat.mul_le_mul_right _ (Nat.le_add_right _ _)
      omega
    · have hm : DataW.lit (H := H) (.string x.data.toList) ∈ ts.map fun t => DataW.lit (H := H) (.string t.data.toList) := List.mem_map.2 ⟨x, hx, rfl⟩
      have := hB x.data.toList.length (List.mem_cons_of_mem _ (List.mem_append_left _ (weights_all hm _ (by simp [DataW.weights]))))
      rw [Array.length_toList] at this
      exact this

theorem bulk_mem {d : DataW H} : ∀ {l : List (DataW H)}, d ∈ l → Rows.uptoBulk d ≤ Rows.uptoBulkAll l
  | [], h => by cases h
  | x :: r, h => by
    simp only [Rows.uptoBulkAll]
    rcases List.mem_cons.1 h with rfl | h
    · omega
    · have := bulk_mem h; omega
theorem bulk_one (d : DataW H) : 1 ≤ Rows.uptoBulk d := by
  cases d with
  | lit l => cases l <;> simp [Rows.uptoBulk]
  | nil => simp [Rows.uptoBulk]
  | ptr d => simp [Rows.uptoBulk]
  | slice a b => simp [Rows.uptoBulk]
  | agg a => simp [Rows.uptoBulk]
  | iface a d => simp [Rows.uptoBulk]
  | map a => simp [Rows.uptoBulk]
  | held a => simp [Rows.uptoBulk]
theorem bulk_len : ∀ (l : List (DataW H)), l.length ≤ Rows.uptoBulkAll l
  | [] => by simp
  | x :: r => by
    have := bulk_len r
    have := bulk_one x
    simp only [Rows.uptoBulkAll, List.length_cons]
    omega
/-- By the bulk: how many, how long. -/
theorem ReadS.bulk {ts : List ByteArray} {d : DataW H} (h : ReadS ts d) : ts.length ≤ Rows.uptoBulk d ∧ ∀ x ∈ ts, x.size ≤ Rows.uptoBulk d := by
  rcases h with ⟨_, rfl⟩ | ⟨rest, rfl⟩
  · exact ⟨by simp, fun x hx => by simp at hx⟩
  · simp only [Rows.uptoBulk]
    refine ⟨?_, fun x hx => ?_⟩
    · have := bulk_len (ts.map fun t => DataW.lit (H := H) (.string t.data.toList))
      rw [List.length_map] at this
      omega
    · have hm : DataW.lit (H := H) (.string x.data.toList) ∈ ts.map fun t => DataW.lit (H := H) (.string t.data.toList) := List.mem_map.2 ⟨x, hx, rfl⟩
      have h1 := bulk_mem hm
      simp only [Rows.uptoBulk] at h1
      have h2 : x.data.toList.length = x.size := Array.length_toList
      omega
end
end Go.Proofs.Ytoomanlonhnleaa.Texts
