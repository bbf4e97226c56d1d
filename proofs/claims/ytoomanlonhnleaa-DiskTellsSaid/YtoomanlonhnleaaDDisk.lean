/- A disk as a value, and as an argument by value: its eight cells, its numbers' bounds, how long its texts are; of no program. -/
import Derived.Test.YtoomanlonhnleaaDMath
import Derived.Test.YtoomanlonhnleaaTexts
namespace Go.Proofs.Ytoomanlonhnleaa.Disk
open Go.ChangeShapes Go.WideShapes Go.ChangeAt Go.RowKit

/-- The cells of a disk. -/
def cellsD (d : Dk) : Array Value := #[.int .i64 d.size, .string d.f0.hard, .string d.f0.soft, .string d.f1.hard, .string d.f1.soft, .bool d.down, .int .i64 d.fuse, .int .i64 d.keep]
/-- A disk by value. -/
def valD (d : Dk) : Value := .agg (cellsD d)
/-- Its numbers are of 64 bits. -/
structure Dk.Fair (d : Dk) : Prop where
  s0 : -9223372036854775808 ≤ d.size
  s1 : d.size ≤ 9223372036854775807
  f0 : -9223372036854775808 ≤ d.fuse
  f1 : d.fuse ≤ 9223372036854775807
  k0 : -9223372036854775808 ≤ d.keep
  k1 : d.keep ≤ 9223372036854775807
theorem list8 {α : Type} (l : List α) (h : (⟨l⟩ : Array α).size = 8) : ∃ a b c d e f g h, l = [a, b, c, d, e, f, g, h] := by
  match l, h with
  | [a, b, c, d, e, f, g, h], _ => exact ⟨a, b, c, d, e, f, g, h, rfl⟩

section
variable {H : Type} {enc : TypeId × Value → H} {P : Program}
/-- What is read of a disk. -/
def dataD (d : Dk) : DataW H := .agg [.lit (.int .i64 d.size), .agg [.agg [.lit (.string d.f0.hard.data.toList), .lit (.string d.f0.soft.data.toList)], .agg [.lit (.string d.f1.hard.data.toList), .lit (.string d.f1.soft.data.toList)]], .lit (.bool d.down), .lit (.int .i64 d.fuse), .lit (.int .i64 d.keep)]

theorem open_file {fe : TypeId} {g0 g1 : Field} (he : P.underlying fe = some (.struct #[g0, g1])) (o0 : g0.offset = 0) (o1 : g1.offset = 1) (c0 : P.cellsOf g0.type = 1) (c1 : P.cellsOf g1.type = 1)
    (u0 : P.underlying g0.type = some .string) (u1 : P.underlying g1.type = some .string) {W : World} {n : Nat} {a b : Value} {x : DataW H × List MemPlace} (h : DataW.trod enc P W 0 (fun _ => true) true n fe [a, b] = some x) :
    ∃ s t : ByteArray, a = .string s ∧ b = .string t ∧ x.1 = .agg [.lit (.string s.data.toList), .lit (.string t.data.toList)] := by
  obtain ⟨y0, y1, k, hy, _, g0', g1'⟩ := trod_struct2 he h
  rw [o0, c0] at g0'
  rw [o1, c1] at g1'
  simp at g0' g1'
  obtain ⟨b0, e0, q0, _⟩ := DataW.trod_string u0 g0'
  obtain ⟨b1, e1, q1, _⟩ := DataW.trod_string u1 g1'
  simp only [List.cons.injEq, and_true] at e0 e1
  exact ⟨b0, b1, e0, e1, by rw [hy, q0, q1]⟩

theorem open_disk {t fe : TypeId} {f0 f1 f2 f3 f4 g0 g1 : Field} (ht : P.underlying t = some (.struct #[f0, f1, f2, f3, f4])) (ct : P.cellsOf t = 8)
    (o0 : f0.offset = 0) (o1 : f1.offset = 1) (o2 : f2.offset = 5) (o3 : f3.offset = 6) (o4 : f4.offset = 7) (c0 : P.cellsOf f0.type = 1) (c1 : P.cellsOf f1.type = 4) (c2 : P.cellsOf f2.type = 1) (c3 : P.cellsOf f3.type = 1) (c4 : P.cellsOf f4.type = 1)
    (u0 : P.underlying f0.type = some (.int .i64)) (u1 : P.underlying f1.type = some (.array 2 fe)) (u2 : P.underlying f2.type = some .bool) (u3 : P.underlying f3.type = some (.int .i64)) (u4 : P.underlying f4.type = some (.int .i64))
    (he : P.underlying fe = some (.struct #[g0, g1])) (ce : P.cellsOf fe = 2) (p0 : g0.offset = 0) (p1 : g1.offset = 1) (d0 : P.cellsOf g0.type = 1) (d1 : P.cellsOf g1.type = 1) (w0 : P.underlying g0.type = some .string) (w1 : P.underlying g1.type = some .string)
    {W : World} {base : Nat} {v : Value} {d : DataW H} {p : List MemPlace} (hv : Value.okWide P W .any base t v) (h : DataW.Trod enc P W 0 (fun _ => true) true t v d p) : ∃ k : Dk, v = valD k ∧ d = dataD k ∧ k.Fair := by
  obtain ⟨cs, rfl, hsz, _⟩ : ∃ cs, v = .agg cs ∧ cs.size = P.cellsOf t ∧ Row.okWide P W .any base t cs := by
    simpa [Value.okWide, ht] using hv
  rw [ct] at hsz
  obtain ⟨l⟩ := cs
  obtain ⟨a0, a1, a2, a3, a4, a5, a6, a7, rfl⟩ := list8 l hsz
  obtain ⟨fuel, hf⟩ := h
  obtain ⟨xs, n, _, hx, _, hlen, hg⟩ := DataW.trod_struct ht hf
  match xs, hlen with
  | [y0, y1, y2, y3, y4], _ =>
    have h0 := hg 0 f0 rfl
    have h1 := hg 1 f1 rfl
    have h2 := hg 2 f2 rfl
    have h3 := hg 3 f3 rfl
    have h4 := hg 4 f4 rfl
    rw [o0, c0] at h0
    rw [o1, c1] at h1
    rw [o2, c2] at h2
    rw [o3, c3] at h3
    rw [o4, c4] at h4
    simp [Value.cells] at h0 h1 h2 h3 h4
    obtain ⟨b0, e0, q0, z0⟩ := DataW.trod_int u0 h0
    obtain ⟨b2, e2, q2⟩ := DataW.trod_bool u2 h2
    obtain ⟨b3, e3, q3, z3⟩ := DataW.trod_int u3 h3
    obtain ⟨b4, e4, q4, z4⟩ := DataW.trod_int u4 h4
    obtain ⟨ys, m, _, hy, _, hylen, hyg⟩ := DataW.trod_array u1 h1
    match ys, hylen with
    | [r0, r1], _ =>
      have k0 := hyg 0 (by decide)
      have k1 := hyg 1 (by decide)
      rw [ce] at k0 k1
      simp at k0 k1
      obtain ⟨s0, t0, rfl, rfl, m0⟩ := open_file he p0 p1 d0 d1 w0 w1 k0
      obtain ⟨s1, t1, rfl, rfl, m1⟩ := open_file he p0 p1 d0 d1 w0 w1 k1
      simp only [List.cons.injEq, and_true] at e0 e2 e3 e4
      subst e0 e2 e3 e4
      have v0 := bounds_i64 z0
      have v3 := bounds_i64 z3
      have v4 := bounds_i64 z4
      refine ⟨⟨b0, ⟨s0, t0⟩, ⟨s1, t1⟩, b2, b3, b4⟩, rfl, ?_, ⟨v0.1, v0.2, v3.1, v3.2, v4.1, v4.2⟩⟩
      have e := congrArg Prod.fst hx
      simp only [List.map_cons, List.map_nil] at e
      rw [e, hy, q0, q2, q3, q4]
      simp only [List.map_cons, List.map_nil, m0, m1]
      rfl
/-- By the bulk: how long its texts are. -/
theorem dataD_bulk (k : Dk) : k.f0.hard.size ≤ Rows.uptoBulk (dataD (H := H) k) ∧ k.f0.soft.size ≤ Rows.uptoBulk (dataD (H := H) k) ∧ k.f1.hard.size ≤ Rows.uptoBulk (dataD (H := H) k) ∧ k.f1.soft.size ≤ Rows.uptoBulk (dataD (H := H) k) := by
  have l : ∀ s : ByteArray, s.data.toList.length = s.size := fun _ => Array.length_toList
  simp only [dataD, Rows.uptoBulk, Rows.uptoBulkAll, l]
  omega
/-- By the reach. -/
theorem dataD_reach {t fe : TypeId} {f0 f1 f2 f3 f4 g0 g1 : Field} {k : Dk} {B : Nat} (ht : P.underlying t = some (.struct #[f0, f1, f2, f3, f4])) (u1 : P.underlying f1.type = some (.array 2 fe)) (he : P.underlying fe = some (.struct #[g0, g1]))
    (hB : ∀ n ∈ (dataD (H := H) k).weights P t, n ≤ B) : k.f0.hard.size ≤ B ∧ k.f0.soft.size ≤ B ∧ k.f1.hard.size ≤ B ∧ k.f1.soft.size ≤ B := by
  have l : ∀ s : ByteArray, s.data.toList.length = s.size := fun _ => Array.length_toList
  simp only [dataD, DataW.weights, ht, u1, he, DataW.weightsEach, DataW.weightsAll, List.map_cons, List.map_nil] at hB
  rw [← l k.f0.hard, ← l k.f0.soft, ← l k.f1.hard, ← l k.f1.soft]
  refine ⟨hB _ (by simp), hB _ (by simp), hB _ (by simp), hB _ (by simp)⟩
end
end Go.Proofs.Ytoomanlonhnleaa.Disk
