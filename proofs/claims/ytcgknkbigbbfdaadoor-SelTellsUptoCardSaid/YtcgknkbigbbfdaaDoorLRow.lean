/- Labels in memory: a slice of pairs of texts; what label.Find answers of any, and that of memory that was there nothing turns. -/
import Derived.Test.YtcgknkbigbbfdaaDoorWRight
import Derived.WalkKit
import Derived.WalkSpells
import Derived.WalkLawsBesides
import Derived.Lib.Hide
import Derived.Lib.Walk
import Derived.Shelf.SlicesQ.Load
namespace Go.Proofs.YtcgknkbigbbfdaaDoor.Label
open Go.RowKit Go.Proofs.YtcgknkbigbbfdaaDoor.Word

/-- A pair of texts. -/
abbrev Pr := ByteArray × ByteArray
def enc (x : Pr) : List Value := [.string x.1, .string x.2]
/-- The cells from a place on hold these pairs. -/
def Cells (w : World) (g o : Nat) (ls : List Pr) : Prop :=
  ∀ j x, ls[j]? = some x → w.cell? ⟨g, o + j * 2, none⟩ = some (.string x.1) ∧ w.cell? ⟨g, o + j * 2 + 1, none⟩ = some (.string x.2)
/-- A slice of these pairs. -/
def Row (w : World) (v : Value) (ls : List Pr) : Prop :=
  (ls = [] ∧ ∃ a cap, v = .slice a 0 cap ∧ cap ≤ maxLen) ∨ (ls ≠ [] ∧ ∃ g o cap, v = .slice (some ⟨g, o, none⟩) ls.length cap ∧ g < w.heap.size ∧ ls.length ≤ cap ∧ cap ≤ maxLen ∧ Cells w g o ls)
theorem Cells.below {w w' : World} {g o : Nat} {ls : List Pr} (h : Cells w g o ls) (hg : g < w.heap.size) (hb : Below w.heap.size w w') : Cells w' g o ls := fun j x hj => by
  rw [hb.cell (p := ⟨g, o + j * 2, none⟩) hg, hb.cell (p := ⟨g, o + j * 2 + 1, none⟩) hg]
  exact h j x hj
theorem Row.below {w w' : World} {v : Value} {ls : List Pr} (h : Row w v ls) (hb : Below w.heap.size w w') : Row w' v ls := by
  rcases h with h | ⟨h0, g, o, cap, h1, h2, h3, h4, h5⟩
  · exact .inl h
  · exact .inr ⟨h0, g, o, cap, h1, by have := hb.size; omega, h3, h4, h5.below h2 hb⟩
theorem Cells.load {w : World} {g o : Nat} {ls : List Pr} (h : Cells w g o ls) {j : Nat} {x : Pr} (hj : ls[j]? = some x) (P : Program) :
    Sem.run P (loadCellsFrom ⟨g, o + j * 2, none⟩ 0 2 #[]) w = .ok #[.string x.1, .string x.2] w := by
  refine run_loadCellsFrom_list P w _ [.string x.1, .string x.2] 2 rfl ?_
  intro i v hi
  rw [Addr.add_lit]
  have := h j x hj
  match i with
  | 0 => simp at hi; subst hi; exact this.1
  | 1 => simp at hi; subst hi; exact this.2
  | (n + 2) => simp at hi

/-- The value of the first pair of that key. -/
def findL (ls : List Pr) (key : ByteArray) : Option ByteArray := (ls.find? fun x => x.1.toList == key.toList).map (·.2)
def found (r : Option ByteArray) : Value := .tuple #[.string (r.getD ⟨#[]⟩), .bool r.isSome]

theorem find_drop_hit {ls : List Pr} {k : Nat} {x : Pr} {key : ByteArray} (hx : ls[k]? = some x) (h : (x.1.toList == key.toList) = true) : findL (ls.drop k) key = some x.2 := by
  obtain ⟨hlt, rfl⟩ := List.getElem?_eq_some_iff.1 hx
  rw [List.drop_eq_getElem_cons hlt, findL, List.find?_cons, h]
  rfl
theorem find_drop_miss {ls : List Pr} {k : Nat} {x : Pr} {key : ByteArray} (hx : ls[k]? = some x) (h : (x.1.toList == key.toList) = false) : findL (ls.drop k) key = findL (ls.drop (k + 1)) key := by
  obtain ⟨hlt, rfl⟩ := List.getElem?_eq_some_iff.1 hx
  rw [List.drop_eq_getElem_cons hlt, findL, List.find?_cons, h]
  rfl

set_option maxHeartbeats 1000000 in
set_option maxRecDepth 100000 in
theorem find_any (v : Value) (ls : List Pr) (key : ByteArray) (w : World) (hv : Row w v ls) (hl : ls.length ≤ 4611686018427387904) :
    Calls Tryd.prog 27 #[v, .string key] w fun e w' => e = .returned (found (findL ls key)) ∧ Below w.heap.size w w' := by
  rcases hv with ⟨rfl, a, cap, rfl, hm⟩ | ⟨hne, g, o, cap, rfl, hg, hcap, hm, hcell⟩
  · go_enter Tryd.func27, Tryd.ntmps27
    go_wp2
    go_loopw [10] (fun i wr => i = .int .i64 0 ∧ wr = w) (fun _ _ => 0)
    case atStart => exact ⟨rfl, rfl⟩
    case round =>
      obtain ⟨rfl, rfl⟩ := hrel
      go_wp2
      go_ret2
      exact ⟨rfl, Below.refl _ _⟩
  · have HC := Lib.hid hcell
    clear hcell hne
    go_enter Tryd.func27, Tryd.ntmps27
    go_wp2
    go_loopw [10] (fun i wr => ∃ k : Nat, k ≤ ls.length ∧ i = .int .i64 k ∧ findL (ls.drop k) key = findL ls key ∧ Below w.heap.size w wr) (fun i _ => ls.length - (intOf i).toNat)
    case atStart => exact ⟨0, Nat.zero_le _, rfl, rfl, Below.refl _ _⟩
    case round =>
      obtain ⟨k, hk, rfl, hf, hb⟩ := hrel
      have HF := Lib.hid hf
      clear hf
      by_cases hlt : k < ls.length
      · obtain ⟨x, hx⟩ : ∃ x, ls[k]? = some x := ⟨_, List.getElem?_eq_getElem hlt⟩
        obtain ⟨hc1, hc2⟩ := HC.out.below hg hb k x hx
        have HX := Lib.hid hx
        clear hx
        obtain ⟨x1, x2⟩ := x
        have he : Hid ((x1.toList == key.toList) = true) ∨ Hid ((x1.toList == key.toList) = false) := by cases h : (x1.toList == key.toList); exact .inr (Lib.hid rfl); exact .inl (Lib.hid rfl)
        rcases he with he | he
        · have h1 := he.out
          go_wp2
          go_ret2
          rw [← HF.out, find_drop_hit HX.out he.out]
          exact ⟨rfl, hb.alloc hb.size _⟩
        · have h1 := he.out
          go_wp2
          go_roundw
          case rel => exact ⟨k + 1, by omega, by go_num, by rw [← HF.out, find_drop_miss HX.out he.out], hb.alloc hb.size _⟩
          case measure => simp [intOf]; omega
      · go_wp2
        go_ret2
        have := HF.out
        rw [List.drop_eq_nil_of_le (by omega)] at this
        rw [← this]
        exact ⟨rfl, hb⟩
end Go.Proofs.YtcgknkbigbbfdaaDoor.Label
