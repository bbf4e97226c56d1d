/- Arguments that are slices of bytes, and slices of such slices: what their cells hold. Of no program. -/
import Derived.ProofKit
import Derived.OpenShut
import Derived.Below
import Derived.Deep.Matrix
import Derived.WalkKit
namespace Go.Proofs.Ytoomanlonhnleaa.Args
open Go.ChangeShapes Go.WideShapes Go.ChangeAt Go.RowKit

/-- A slice of bytes: nothing, or a row whose cells hold them. -/
def Bytes (w : World) (v : Value) (bs : List UInt8) : Prop :=
  ∃ o cap, v = .slice o bs.length cap ∧ bs.length ≤ maxLen ∧ (bs ≠ [] → ∃ b off, o = some ⟨b, off, none⟩ ∧ b < w.heap.size ∧ ∀ i (h : i < bs.length), w.cell? ⟨b, off + i, none⟩ = some (.int .u8 (bs[i].toNat : Int)))
theorem Bytes.below {w w' : World} {v : Value} {bs : List UInt8} (h : Bytes w v bs) (hb : Below w.heap.size w w') : Bytes w' v bs := by
  obtain ⟨o, cap, h1, h2, h3⟩ := h
  refine ⟨o, cap, h1, h2, fun hne => ?_⟩
  obtain ⟨b, off, h4, h5, h6⟩ := h3 hne
  exact ⟨b, off, h4, by have := hb.size; omega, fun i hi => by rw [hb.cell h5]; exact h6 i hi⟩

/-- A slice of slices of bytes. -/
def ByteRows (w : World) (v : Value) (bss : List (List UInt8)) : Prop :=
  ∃ o cap, v = .slice o bss.length cap ∧ bss.length ≤ maxLen ∧ (bss ≠ [] → ∃ b off, o = some ⟨b, off, none⟩ ∧ b < w.heap.size ∧ ∀ i (h : i < bss.length), ∃ u, w.cell? ⟨b, off + i, none⟩ = some u ∧ Bytes w u bss[i])
theorem ByteRows.below {w w' : World} {v : Value} {bss : List (List UInt8)} (h : ByteRows w v bss) (hb : Below w.heap.size w w') : ByteRows w' v bss := by
  obtain ⟨o, cap, h1, h2, h3⟩ := h
  refine ⟨o, cap, h1, h2, fun hne => ?_⟩
  obtain ⟨b, off, h4, h5, h6⟩ := h3 hne
  refine ⟨b, off, h4, by have := hb.size; omega, fun i hi => ?_⟩
  obtain ⟨u, h7, h8⟩ := h6 i hi
  exact ⟨u, by rw [hb.cell h5]; exact h7, h8.below hb⟩

section
variable {H : Type} {enc : TypeId × Value → H} {P : Program}

theorem byte_of {n : Int} (h : (Lit.int .u8 n).wf = true) : ((UInt8.ofNat n.toNat).toNat : Int) = n := by
  have hb : 0 ≤ n ∧ n ≤ 255 := by simpa [Lit.wf, IntKind.min, IntKind.max, IntKind.signed, IntKind.bits] using h
  rw [UInt8.toNat_ofNat']
  omega

/-- Numbers in cells, as bytes. -/
theorem bytes_of {w : World} (o : Option Addr) (len cap : Nat) (zs : List Int) (hl : len ≤ zs.length) (hm : len ≤ maxLen) (hw : ∀ n ∈ zs, (Lit.int .u8 n).wf = true)
    (hc : ∀ a, o = some a → ∀ i, i < zs.length → w.cell? (a.add i) = some (.int .u8 (zs.getD i 0))) (hn : o = none → len = 0) :
    Bytes w (.slice o len cap) ((zs.take len).map fun n => UInt8.ofNat n.toNat) := by
  have hlen : ((zs.take len).map fun n => UInt8.ofNat n.toNat).length = len := by simp; omega
  refine ⟨o, cap, by rw [hlen], by rw [hlen]; exact hm, fun hne => ?_⟩
  have hpos := List.length_pos_iff.2 hne
  rw [hlen] at hpos
  cases o with
  | none => have := hn rfl; omega
  | some a =>
    obtain ⟨ab, ao, spot⟩ := a
    have h0 := hc _ rfl 0 (by omega)
    have hspot : spot = none := by simpa [Addr.add] using World.cell?_spot h0
    subst hspot
    refine ⟨ab, ao, rfl, ?_, fun i hi => ?_⟩
    · exact World.block_lt_of_cell? (a := ⟨ab, ao, none⟩) _ (by simpa [Addr.add] using h0)
    · rw [hlen] at hi
      have h1 := hc _ rfl i (by omega)
      rw [Addr.add_lit] at h1
      rw [h1]
      have e : zs.getD i 0 = zs[i]'(by omega) := by simp [List.getD, List.getElem?_eq_getElem (show i < zs.length by omega)]
      rw [e]
      simp only [List.getElem_map, List.getElem_take]
      rw [byte_of (hw _ (List.getElem_mem _))]

/-- An argument of bytes, opened. -/
theorem open_bytes {t e : TypeId} (ht : P.underlying t = some (.slice e)) (he : P.underlying e = some (.int .u8)) (hc : P.cellsOf e = 1) {W : World} {base : Nat} {v : Value} {d : DataW H} {p : List MemPlace}
    (hval : Value.okWide P W .any base t v) (h : DataW.Trod enc P W 0 (fun _ => true) true t v d p) : ∃ bs, Bytes W v bs := by
  obtain ⟨a1, len, cap, rfl⟩ := okWide_slice ht hval
  obtain ⟨fuel, hf⟩ := h
  rcases open_ints ht he hc hf with ⟨hcs, _⟩ | ⟨a, len', cap', zs, hcs, _, hl, hm, hz, _, hcell, hwz⟩
  · simp [Value.cells] at hcs
    obtain ⟨rfl, rfl, rfl⟩ := hcs
    exact ⟨[], none, 0, rfl, Nat.zero_le _, fun h => absurd rfl h⟩
  · simp [Value.cells] at hcs
    obtain ⟨rfl, rfl, rfl⟩ := hcs
    simp only [if_true] at hz
    exact ⟨_, bytes_of (some a) len cap zs (by omega) (by omega) hwz (fun a' ha' => by cases ha'; exact hcell) (fun h => by cases h)⟩

theorem open_rows {t e q : TypeId} (ht : P.underlying t = some (.slice e)) (he : P.underlying e = some (.slice q)) (hq : P.underlying q = some (.int .u8)) (ce : P.cellsOf e = 1) (cq : P.cellsOf q = 1) {W : World} {base : Nat} {v : Value} {d : DataW H} {p : List MemPlace}
    (hval : Value.okWide P W .any base t v) (h : DataW.Trod enc P W 0 (fun _ => true) true t v d p) : ∃ bss, ByteRows W v bss := by
  obtain ⟨a1, len, cap, rfl⟩ := okWide_slice ht hval
  obtain ⟨fuel, hf⟩ := h
  rcases Deep.open_int_rows ht he hq ce cq hf with ⟨hcs, _⟩ | ⟨a, len', cap', A, L, C, Z, hcs, _, hl, hm, _, hr⟩
  · simp [Value.cells] at hcs
    obtain ⟨rfl, rfl, rfl⟩ := hcs
    exact ⟨[], none, 0, rfl, Nat.zero_le _, fun h => absurd rfl h⟩
  · simp [Value.cells] at hcs
    obtain ⟨rfl, rfl, rfl⟩ := hcs
    have hlen : ((List.range len).map fun r => ((Z r).take (L r)).map fun n => UInt8.ofNat n.toNat).length = len := by simp
    refine ⟨(List.range len).map fun r => ((Z r).take (L r)).map fun n => UInt8.ofNat n.toNat, some a, cap, by rw [hlen], by rw [hlen]; omega, fun hne => ?_⟩
    have hpos := List.length_pos_iff.2 hne
    rw [hlen] at hpos
    obtain ⟨ab, ao, spot⟩ := a
    have h0 := (hr 0 (by omega)).1
    have hspot : spot = none := by simpa [Addr.add] using World.cell?_spot h0
    subst hspot
    refine ⟨ab, ao, rfl, World.block_lt_of_cell? (a := ⟨ab, ao, none⟩) _ (by simpa [Addr.add] using h0), fun i hi => ?_⟩
    rw [hlen] at hi
    obtain ⟨h1, h2, h3, h4, h5, h6, h7⟩ := hr i (by omega)
    rw [Addr.add_lit] at h1
    refine ⟨_, h1, ?_⟩
    simp only [List.getElem_map, List.getElem_range]
    exact bytes_of (A i) (L i) (C i) (Z i) (by omega) (by omega) h5 (fun a' ha' j hj => (h7 a' ha').2 j (by omega)) (fun hn => by have := h6 hn; omega)
end
end Go.Proofs.Ytoomanlonhnleaa.Args
