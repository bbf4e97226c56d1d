/- Bytes as values, a row of bytes made at once and filled by appends that have room, and what it reads as; of no function of the program. -/
import Derived.Test.YthopegokjbibmaaDoorProg
import Derived.Test.YthopegokjbibmaaDoorHMath
import Derived.WalkKit
import Derived.WalkSpells
import Derived.WalkLawsBesides
import Derived.Laws.BytesArg
import Derived.Laws.OwnMore
import Derived.Lib.Hide
import Derived.Deep.RegionHeld3
namespace Go.Proofs.YthopegokjbibmaaDoor.Sha
open Go.RowKit

theorem info5 : (Tryd.prog.info? 5).map (fun i => (i.zero, i.size, i.bytes)) = some (some (.int .u8 0), 1, 1) := by kernel_rfl

/-- Bytes as values. -/
def vals (l : List UInt8) : List Value := l.map fun c => Value.int .u8 (c.toNat : Int)
theorem vals_append (a b : List UInt8) : vals (a ++ b) = vals a ++ vals b := by simp [vals]
theorem vals_length (a : List UInt8) : (vals a).length = a.length := by simp [vals]
theorem vals_one (a : List UInt8) : ∀ u ∈ vals a, u.oneCell' = true := by
  intro u hu
  obtain ⟨c, _, rfl⟩ := List.mem_map.1 hu
  rfl
/-- A text of bytes. -/
def str (l : List UInt8) : ByteArray := ⟨l.toArray⟩
theorem str_toList (l : List UInt8) : (str l).data.toList = l := by simp [str]
theorem str_size (l : List UInt8) : (str l).size = l.length := by simp [str, ByteArray.size]
theorem str_of (s : ByteArray) : str s.data.toList = s := by cases s with | mk d => show ByteArray.mk d.toList.toArray = _; rw [Array.toArray_toList]
theorem str_inj {a b : List UInt8} (h : str a = str b) : a = b := by rw [← str_toList a, h, str_toList]
theorem size_list (s : ByteArray) : s.data.toList.length = s.size := Array.length_toList

/-- The row of bytes at one place, of a capacity that stays. -/
def Owns (w : World) (B g cap : Nat) (l : List UInt8) : Prop := w.ownsRow B 5 1 (.slice (some ⟨g, 0, none⟩) l.length cap) l.length (vals l)

set_option maxRecDepth 100000 in
theorem conv_owns {w : World} {B g cap : Nat} {l : List UInt8} (h : Owns w B g cap l) :
    (convert 52 9 (.slice (some ⟨g, 0, none⟩) l.length cap)).run Tryd.prog w = .ok (.string (str l)) w := by
  have := run_convert_bytes_arg (P := Tryd.prog) w 52 5 Tryd.underlying52 Tryd.underlying5 g 0 l.length cap (l.map fun c => (c.toNat : Int)) (by simp) (fun i hi => by
    rw [Nat.zero_add, h.cellAt i (by simpa using hi)]
    simp [vals, hi]) 9 Tryd.underlying9
  rw [this]
  congr 2
  simp only [strOfNums, str, List.map_map]
  congr 1
  congr 1
  exact (List.map_congr_left fun c _ => by simp).trans (List.map_id _)

theorem make_owns (w : World) (c : Nat) (hc : c ≤ 281474976710656) :
    ∃ w', (Instr.makeSlice 52 (.int .i64 0) (.int .i64 (c : Int))).run Tryd.prog w = .ok (.slice (some ⟨w.heap.size, 0, none⟩) 0 c) w' ∧ Owns w' w.heap.size w.heap.size c [] ∧ Below w.heap.size w w' := by
  obtain ⟨i0, hi, hz0, hz1, hz2⟩ := info_parts info5
  have hr := run_make (P := Tryd.prog) w 52 5 i0 (.int .u8 0) Tryd.underlying52 hi hz0 .i64 .i64 0 c (Int.le_refl _) (by omega) (by rw [hz2]; omega) (by omega)
  simp only [Int.toNat_zero, Int.toNat_natCast] at hr
  exact ⟨_, hr, World.ownsRow_made w _ c (Nat.le_refl _) (by unfold maxLen; omega) (by rw [size_madeCells, hz1]), (Below.refl _ _).alloc (Nat.le_refl _) _⟩

/-- An append that has room, inside a region that draws. -/
theorem step_fits (w : World) {ops : Array Oper} {o : Oper} {a : Act} {K : Act → World → Prop} {Q : Exit → Act → World → Prop} {E : Prop} (hgd : o.guard = none) (s x : Operand)
    (ho : o.op = .call { callee := .builtin .append, args := #[s, x], argTypes := #[52, 52] })
    (B g cap : Nat) (l : List UInt8) (n : Nat) (hn : l.length = n) (hs : a.eval s = .slice (some ⟨g, 0, none⟩) n cap) (hown : Owns w B g cap l)
    (ad : Addr) (m c : Nat) (news : List UInt8) (hx : a.eval x = .slice (some ad) m c) (hl : news.length = m) (hnews : ∀ j u, (vals news)[j]? = some u → w.cell? (ad.add j) = some u) (hroom : l.length + m ≤ cap)
    (h : ∀ w', Owns w' B g cap (l ++ news) → w.grownBy w' (some g) → K (a.put o.dst (.slice (some ⟨g, 0, none⟩) (n + m) cap)) w') :
    if Region.wanted o (yielded ops a.tmps) = true then Oper.wp Tryd.prog o a w K Q else E := by
  subst hn
  have hw : Region.wanted o (yielded ops a.tmps) = true := by simp [Region.wanted, hgd]
  rw [if_pos hw]
  obtain ⟨i0, hi, hz0, hz1, hz2⟩ := info_parts info5
  obtain ⟨w', hr, h2, h3⟩ := run_append_fits (P := Tryd.prog) w B 52 o.type 5 i0 1 Tryd.underlying52 hi hz1 g l.length cap (vals l) hown ad m c (vals news) (by rw [vals_length]; omega) hnews (vals_one _) hroom
  unfold Oper.wp execOp
  simp only [ho, resolve, invoke, builtin, Sem.run_bind, Sem.run_pure, Result.andThen_ok, List.map_toArray, List.map_cons, List.map_nil, hs, hx, hr]
  refine h w' ?_ h3
  unfold Owns
  rw [List.length_append, hl, vals_append]
  exact h2
/-- An append that has room. -/
theorem append_fits (w : World) {ops : Array Oper} {rest : List Oper} {o : Oper} {a : Act} {Q : Exit → Act → World → Prop} (hgd : o.guard = none) (s x : Operand)
    (ho : o.op = .call { callee := .builtin .append, args := #[s, x], argTypes := #[52, 52] })
    (B g cap : Nat) (l : List UInt8) (n : Nat) (hn : l.length = n) (hs : a.eval s = .slice (some ⟨g, 0, none⟩) n cap) (hown : Owns w B g cap l)
    (ad : Addr) (m c : Nat) (news : List UInt8) (hx : a.eval x = .slice (some ad) m c) (hl : news.length = m) (hnews : ∀ j u, (vals news)[j]? = some u → w.cell? (ad.add j) = some u) (hroom : l.length + m ≤ cap)
    (h : ∀ w', Owns w' B g cap (l ++ news) → w.grownBy w' (some g) → wpList Tryd.prog ops Q rest (a.put o.dst (.slice (some ⟨g, 0, none⟩) (n + m) cap)) w') : wpList Tryd.prog ops Q (o :: rest) a w := by
  subst hn
  refine wpList_plain hgd fun K hK => ?_
  obtain ⟨i0, hi, hz0, hz1, hz2⟩ := info_parts info5
  obtain ⟨w', hr, h2, h3⟩ := run_append_fits (P := Tryd.prog) w B 52 o.type 5 i0 1 Tryd.underlying52 hi hz1 g l.length cap (vals l) hown ad m c (vals news) (by rw [vals_length]; omega) hnews (vals_one _) hroom
  unfold Oper.wp execOp
  simp only [ho, resolve, invoke, builtin, Sem.run_bind, Sem.run_pure, Result.andThen_ok, List.map_toArray, List.map_cons, List.map_nil, hs, hx, hr]
  refine hK _ _ (h w' ?_ h3)
  unfold Owns
  rw [List.length_append, hl, vals_append]
  exact h2
/-- What a row that has just been built holds. -/
theorem built (w : World) (l : List UInt8) (t : TypeId) : ∀ j u, (vals l)[j]? = some u → (w.alloc (.cells (vals l).toArray t)).cell? ((⟨w.heap.size, 0, none⟩ : Addr).add j) = some u := by
  intro j u hj
  have hadd : (⟨w.heap.size, 0, none⟩ : Addr).add j = ⟨w.heap.size, j, none⟩ := by unfold Addr.add; split <;> simp_all
  rw [hadd, cell_of_row _ _ j (vals l).toArray t (0, 0) (heap_alloc_new w _)]
  simpa using hj
theorem Owns.alloc {w : World} {B g cap : Nat} {l : List UInt8} (h : Owns w B g cap l) (o : Obj) : Owns (w.alloc o) B g cap l := World.ownsRow.alloc h o
theorem grown {w w1 w' : World} {B g : Nat} (hb : Below B w w1) (hg : w1.grownBy w' (some g)) (hB : B ≤ w1.heap.size) (hBg : B ≤ g) : Below B w w' :=
  hb.grown hg hB (fun k hk => by injection hk with hk; omega)
end Go.Proofs.YthopegokjbibmaaDoor.Sha
