import Derived.Test.YtbilkeadhflibaaGreatDoorProg
import Derived.Test.YtbilkeadhflibaaGreatDoorJL1
import Derived.WalkKit
import Derived.WalkSpells
import Derived.WalkLawsBesides
import Derived.Laws.RangeString
import Derived.Laws.RangeAny
import Derived.LoopTactic
import Derived.Lib.Hide
import Derived.Lib.RuneCount
import Derived.Lib.Walk
import Derived.Shelf.SlicesQ.Load
import Derived.BigQuiet
import Derived.Below
import Derived.Deep.QuietTactic
import Derived.Sort.Walk0
import Derived.Deep.OwnRows
import Derived.Shelf.Strconv.Itoa3
import Derived.Shelf.Pu.ParseUintPublic10
import Derived.Lib.ItoaMem
import Derived.Lib.AppendIntMem
import Derived.Deep.LoopGhost
import Derived.Laws.Strings3
import Derived.Lib.Split
import Derived.Deep.DeepCutAuto
import Derived.Deep.Cut
import Derived.Deep.WholeRow
/- What word.Right and word.Count answer, for every text; of memory that was there nothing turns. -/
namespace Go.Proofs.YtbilkeadhflibaaGreatDoor.Word
open Go.RowKit

theorem letter_any (r : Nat) (w : World) :
    Calls Tryz.prog 123 #[.int .i32 (r : Int)] w fun e w' => e = .returned (.bool (isLetter r)) ∧ w = w' := by
  by_cases h1 : 97 ≤ r <;> by_cases h2 : r ≤ 122 <;> by_cases h3 : 945 ≤ r <;> by_cases h4 : r ≤ 969 <;> by_cases h5 : 1072 ≤ r <;> by_cases h6 : r ≤ 1103
  all_goals first | (exfalso; omega) | skip
  all_goals
    have HE : Hid (isLetter r = ((decide (97 ≤ r) && decide (r ≤ 122)) || (decide (945 ≤ r) && decide (r ≤ 969)) || (decide (1072 ≤ r) && decide (r ≤ 1103)))) := rfl
    go_enter Tryz.func123, Tryz.ntmps123
    go_wp2
    all_goals first | (exfalso; omega) | skip
    all_goals
      go_ret
      exact ⟨by rw [HE.out]; simp [h1, h2, h3, h4, h5, h6], rfl⟩
theorem inner_any (r : Nat) (w : World) :
    Calls Tryz.prog 124 #[.int .i32 (r : Int)] w fun e w' => e = .returned (.bool (isInner r)) ∧ w = w' := by
  have HE : Hid (isInner r = (decide (r = 45) || (decide (48 ≤ r) && decide (r ≤ 57)))) := rfl
  by_cases h0 : r = 45
  · subst h0
    go_enter Tryz.func124, Tryz.ntmps124
    go_wp2
    go_ret
    exact ⟨by rw [HE.out]; rfl, rfl⟩
  · have h0' : ((r : Int) == 45) = false := by rw [beq_eq_false_iff_ne]; omega
    by_cases h1 : 48 ≤ r <;> by_cases h2 : r ≤ 57
    all_goals first | (exfalso; omega) | skip
    all_goals
      have hz := h0
      clear h0
      go_enter Tryz.func124, Tryz.ntmps124
      go_wp2
      all_goals first | (exfalso; omega) | skip
      all_goals
        go_ret
        exact ⟨by rw [HE.out]; simp [hz, h1, h2] <;> omega, rfl⟩

theorem iter_below (w : World) (s : ByteArray) (pos : Nat) : Below w.heap.size w (w.iter s pos) := (Below.refl _ _).alloc (Nat.le_refl _) _

theorem rightR_stop {k r : Nat} {rs : List Nat} (h : k = 16 ∨ (isLetter r = false ∧ (k = 0 ∨ isInner r = false))) : rightR k (r :: rs) = false := by rw [rightR, if_pos h]
theorem rightR_step {k r : Nat} {rs : List Nat} (h : ¬ (k = 16 ∨ (isLetter r = false ∧ (k = 0 ∨ isInner r = false)))) : rightR k (r :: rs) = rightR (k + 1) rs := by rw [rightR, if_neg h]

set_option maxHeartbeats 4000000 in
theorem right_any (s : ByteArray) (w : World) :
    Calls Tryz.prog 89 #[.string s] w fun e w' => e = .returned (.bool (right s.data.toList)) ∧ Below w.heap.size w w' := by
  go_enter Tryz.func89, Tryz.ntmps89
  go_wp2
  go_loopw [3] (fun n w' => ∃ (pos k : Nat), w' = w.iter s pos ∧ n = .int .i64 k ∧ rightR k (runes (s.data.toList.drop pos)) = right s.data.toList ∧ k ≤ 16) (fun _ w' => s.size - w'.iterPos w.heap.size)
  case atStart => exact ⟨0, 0, rfl, rfl, rfl, by omega⟩
  case round =>
    obtain ⟨pos, k, rfl, rfl, hc, ha⟩ := hrel
    have HC := Lib.hid hc
    clear hc
    by_cases hp : pos < s.size
    · have hnx : ∀ ty, (Instr.next (.pointer (some ⟨w.heap.size, 0, none⟩)) true ty).run Tryz.prog (w.iter s pos) = _ := fun ty => run_next_any w s pos ty hp
      have hwd := Lib.decode_width_pos s pos hp
      have hne : s.data.toList.drop pos ≠ [] := by
        intro h
        have := congrArg List.length h
        rw [List.length_drop, size_list] at this
        simp at this
        omega
      have HR : Hid (runes (s.data.toList.drop pos) = (Utf8.decode s pos).1 :: runes (s.data.toList.drop (pos + (Utf8.decode s pos).2))) := Lib.hid (by
        rw [runes_cons hne, List.drop_drop, decode_drop])
      clear hne
      obtain ⟨r, hr⟩ : ∃ r, r = (Utf8.decode s pos).1 := ⟨_, rfl⟩
      obtain ⟨d, hd⟩ : ∃ d, d = (Utf8.decode s pos).2 := ⟨_, rfl⟩
      rw [← hr, ← hd] at HR hnx
      rw [← hd] at hwd
      clear hr hd
      have e16 : k = 16 ∨ (k ≠ 16 ∧ ((k : Int) == 16) = false) := by
        by_cases h : k = 16
        · exact .inl h
        · exact .inr ⟨h, by rw [beq_eq_false_iff_ne]; omega⟩
      rcases e16 with rfl | ⟨h16, h16'⟩
      · go_wp2
        go_ret
        exact ⟨by rw [← HC.out, HR.out, rightR_stop (.inl rfl)]; rfl, iter_below _ _ _⟩
      · have hl : Hid (isLetter r = true) ∨ Hid (isLetter r = false) := by cases h : isLetter r; exact .inr (Lib.hid rfl); exact .inl (Lib.hid rfl)
        have hlt : k < 16 := by omega
        clear h16
        rcases hl with hl | hl
        · go_wp2_with (go_at_call 123; refine (letter_any r _).mono ?_; rintro e w' ⟨rfl, rfl⟩; rw [hl.out])
          go_roundw
          case rel => exact ⟨pos + d, k + 1, rfl, by go_num, by rw [← HC.out, HR.out, rightR_step (by rw [hl.out]; simp; omega)], by omega⟩
          case measure => simp; omega
        · have hk : (k = 0) ∨ (k ≠ 0 ∧ ((k : Int) == 0) = false) := by
            by_cases h : k = 0
            · exact .inl h
            · exact .inr ⟨h, by rw [beq_eq_false_iff_ne]; omega⟩
          rcases hk with rfl | ⟨h0, h0'⟩
          · go_wp2_with (go_at_call 123; refine (letter_any r _).mono ?_; rintro e w' ⟨rfl, rfl⟩; rw [hl.out])
            go_ret
            exact ⟨by rw [← HC.out, HR.out, rightR_stop (.inr ⟨hl.out, .inl rfl⟩)]; rfl, iter_below _ _ _⟩
          · have hi : Hid (isInner r = true) ∨ Hid (isInner r = false) := by cases h : isInner r; exact .inr (Lib.hid rfl); exact .inl (Lib.hid rfl)
            have H0 := Lib.hid h0
            clear h0
            rcases hi with hi | hi
            · go_wp2_with (first | (go_at_call 123; refine (letter_any r _).mono ?_; rintro e w' ⟨rfl, rfl⟩; rw [hl.out]) | (go_at_call 124; refine (inner_any r _).mono ?_; rintro e w' ⟨rfl, rfl⟩; rw [hi.out]))
              go_roundw
              case rel => exact ⟨pos + d, k + 1, rfl, by go_num, by rw [← HC.out, HR.out, rightR_step (by rw [hl.out, hi.out]; have := H0.out; simp; omega)], by omega⟩
              case measure => simp; omega
            · go_wp2_with (first | (go_at_call 123; refine (letter_any r _).mono ?_; rintro e w' ⟨rfl, rfl⟩; rw [hl.out]) | (go_at_call 124; refine (inner_any r _).mono ?_; rintro e w' ⟨rfl, rfl⟩; rw [hi.out]))
              go_ret
              exact ⟨by rw [← HC.out, HR.out, rightR_stop (.inr ⟨hl.out, .inr hi.out⟩)]; rfl, iter_below _ _ _⟩
    · have hnx : ∀ ty, (Instr.next (.pointer (some ⟨w.heap.size, 0, none⟩)) true ty).run Tryz.prog (w.iter s pos) = _ := fun ty => run_next_end w s pos ty hp
      have HC' : Hid (right s.data.toList = decide (0 < k)) := by
        have hc := HC.out
        rw [List.drop_eq_nil_of_le (by rw [size_list]; omega), runes_nil] at hc
        exact hc.symm
      go_wp2
      go_ret
      exact ⟨by rw [HC'.out]; simp, iter_below _ _ _⟩
end Go.Proofs.YtbilkeadhflibaaGreatDoor.Word

/- Labels in memory: a slice of pairs of texts; what label.Find answers of any, and that of memory that was there nothing turns. -/
namespace Go.Proofs.YtbilkeadhflibaaGreatDoor.Label
open Go.RowKit Go.Proofs.YtbilkeadhflibaaGreatDoor.Word

/-- A pair of texts. -/
abbrev Pr := ByteArray × ByteArray
def enc (x : Pr) : List Value := [.string x.1, .string x.2]
/-- The cells from a place on hold these pairs. -/
def Cells (w : World) (g o : Nat) (ls : List Pr) : Prop :=
  ∀ j x, ls[j]? = some x → w.cell? ⟨g, o + j * 2, none⟩ = some (.string x.1) ∧ w.cell? ⟨g, o + j * 2 + 1, none⟩ = some (.string x.2)
/-- A slice of these pairs. -/
def Row (w : World) (v : Value) (ls : List Pr) : Prop :=
  (ls = [] ∧ ∃ a cap, v = .slice a 0 cap ∧ cap ≤ maxLen) ∨ (ls ≠ [] ∧ ∃ g o cap, v = .slice (some ⟨g, o, none⟩) ls.length cap ∧ g < w.heap.size ∧ ls.length ≤ cap ∧ cap ≤ maxLen ∧ Cells w g o ls)
theorem Cells.below {w w' : World} {g o : Nat} {ls : List Pr} (h : Cells w g o ls) (hg : g < w.heap.size) (hb : Below w.heap.size w w') : Cells w' g o ls := fun j x hj => by
  rw [hb.cell (p := ⟨g, o + j * 2, none⟩) hg, hb.cell (p := ⟨g, o + j * 2 + 1, none⟩) hg]
  exact h j x hj
theorem Row.below {w w' : World} {v : Value} {ls : List Pr} (h : Row w v ls) (hb : Below w.heap.size w w') : Row w' v ls := by
  rcases h with h | ⟨h0, g, o, cap, h1, h2, h3, h4, h5⟩
  · exact .inl h
  · exact .inr ⟨h0, g, o, cap, h1, by have := hb.size; omega, h3, h4, h5.below h2 hb⟩
theorem Cells.load {w : World} {g o : Nat} {ls : List Pr} (h : Cells w g o ls) {j : Nat} {x : Pr} (hj : ls[j]? = some x) (P : Program) :
    Sem.run P (loadCellsFrom ⟨g, o + j * 2, none⟩ 0 2 #[]) w = .ok #[.string x.1, .string x.2] w := by
  refine run_loadCellsFrom_list P w _ [.string x.1, .string x.2] 2 rfl ?_
  intro i v hi
  rw [Addr.add_lit]
  have := h j x hj
  match i with
  | 0 => simp at hi; subst hi; exact this.1
  | 1 => simp at hi; subst hi; exact this.2
  | (n + 2) => simp at hi

/-- The value of the first pair of that key. -/
def findL (ls : List Pr) (key : ByteArray) : Option ByteArray := (ls.find? fun x => x.1.toList == key.toList).map (·.2)
def found (r : Option ByteArray) : Value := .tuple #[.string (r.getD ⟨#[]⟩), .bool r.isSome]

theorem find_drop_hit {ls : List Pr} {k : Nat} {x : Pr} {key : ByteArray} (hx : ls[k]? = some x) (h : (x.1.toList == key.toList) = true) : findL (ls.drop k) key = some x.2 := by
  obtain ⟨hlt, rfl⟩ := List.getElem?_eq_some_iff.1 hx
  rw [List.drop_eq_getElem_cons hlt, findL, List.find?_cons, h]
  rfl
theorem find_drop_miss {ls : List Pr} {k : Nat} {x : Pr} {key : ByteArray} (hx : ls[k]? = some x) (h : (x.1.toList == key.toList) = false) : findL (ls.drop k) key = findL (ls.drop (k + 1)) key := by
  obtain ⟨hlt, rfl⟩ := List.getElem?_eq_some_iff.1 hx
  rw [List.drop_eq_getElem_cons hlt, findL, List.find?_cons, h]
  rfl

end Go.Proofs.YtbilkeadhflibaaGreatDoor.Label

/- A region that draws its order, whose calls may make memory but turn nothing that was there: one walk, in the order of the text, serves every order. Of no program. -/
namespace Go.Proofs.YtbilkeadhflibaaGreatDoor.Quiet
open Go.RowKit

/-- A world behind this one, in which all that was there is as it was. -/
def Behind (w : World) : Type := { x : World // Below w.heap.size w x }
def Behind.world {w : World} (p : Behind w) : World := p.1
theorem Behind.below {w : World} (p : Behind w) : Below w.heap.size w p.world := p.2
instance (w : World) : Nonempty (Behind w) := ⟨⟨w, Below.refl _ _⟩⟩
theorem Behind.of {w x : World} (h : Below w.heap.size w x) : ∃ p : Behind w, x = p.world := ⟨⟨x, h⟩, rfl⟩

theorem region {P : Program} {id : Nat} {Q : Exit → Act → World → Prop} {a : Act} {w : World} {l : List Oper} (hm : P.follows .mixedOrders = true) (hB : Region.lexB .any l.toArray = true)
    (h : wpQuiet P l.toArray (fun w' => ∃ p : Behind w, w' = p.world) (fun a' => ∀ w', (∃ p : Behind w, w' = p.world) → Q .normal a' w') l a) : (Code.region id l.toArray true).wp P Q a w :=
  wp_region_quiet (C := fun w' => ∃ p : Behind w, w' = p.world) hm hB (Behind.of ((Below.refl _ _).drew)) (by simpa using h)

/-- A callee's contract, met in such a world. -/
theorem calls {P : Program} {f : FuncId} {args : Array Value} {w : World} {p : Behind w} {v : Value}
    (h : Calls P f args p.world fun e w' => e = .returned v ∧ Below p.world.heap.size p.world w') : Calls P f args p.world fun e w'' => e = .returned v ∧ ∃ q : Behind w, w'' = q.world :=
  h.mono fun _ _ ⟨he, hb⟩ => ⟨he, Behind.of (p.below.trans (hb.mono p.below.size))⟩
/-- A cell that was there. -/
theorem cell {w : World} {a : Addr} {v : Value} (hb : a.block < w.heap.size) (h : w.cell? a = some v) (p : Behind w) : p.world.cell? a = some v := by
  rw [p.below.cell hb]; exact h
end Go.Proofs.YtbilkeadhflibaaGreatDoor.Quiet

/- What sel.kindOf, the lets of its kinds, sel.holds and sel.Match answer of any terms and labels; of memory that was there nothing turns. -/
namespace Go.Proofs.YtbilkeadhflibaaGreatDoor.Sel
open Go.RowKit Go.Proofs.YtbilkeadhflibaaGreatDoor.Texts Go.Proofs.YtbilkeadhflibaaGreatDoor.Word

/-- Is a text among some? -/
def among (x : ByteArray) (ts : List ByteArray) : Bool := ts.any fun y => x.toList == y.toList
theorem among_take {x y : ByteArray} {ts : List ByteArray} {k : Nat} (hy : ts[k]? = some y) (h : among x (ts.take k) = false) : among x (ts.take (k + 1)) = (x.toList == y.toList) := by
  unfold among at *
  rw [List.take_add_one, hy, List.any_append, h]
  simp
theorem among_hit {x y : ByteArray} {ts : List ByteArray} {k : Nat} (hy : ts[k]? = some y) (h : (x.toList == y.toList) = true) : among x ts = true :=
  List.any_eq_true.2 ⟨y, List.mem_of_getElem? hy, h⟩

def Indexed (x : ByteArray) (ts : List ByteArray) (w : World) (e : Ending) (w' : World) : Prop :=
  ((∃ k : Nat, e = .returned (.int .i64 k) ∧ among x ts = true) ∨ (e = .returned (.int .i64 (-1)) ∧ among x ts = false)) ∧ w' = w



set_option maxHeartbeats 1000000 in
set_option maxRecDepth 100000 in
theorem kind_none (k : ByteArray) (n : Bool) (a : Option Addr) (cap : Nat) (w : World) :
    Calls Tryz.prog 133 #[.agg #[.string k, .bool n, .slice a 0 cap]] w fun e w' => e = .returned (.iface 184 (.agg #[])) ∧ Below w.heap.size w w' := by
  go_enter Tryz.func133, Tryz.ntmps133
  go_wp2
  go_ret
  exact ⟨rfl, (Below.refl _ _).alloc (Nat.le_refl _) _⟩
set_option maxHeartbeats 1000000 in
set_option maxRecDepth 100000 in
theorem kind_some (k : ByteArray) (n : Bool) (a : Option Addr) (m cap : Nat) (hm : 0 < m) (w : World) :
    Calls Tryz.prog 133 #[.agg #[.string k, .bool n, .slice a m cap]] w fun e w' => e = .returned (.iface 162 (.slice a m cap)) ∧ Below w.heap.size w w' := by
  have h0 : ((m : Int) == 0) = false := by simp; omega
  go_enter Tryz.func133, Tryz.ntmps133
  go_wp2
  go_ret
  exact ⟨rfl, (Below.refl _ _).alloc (Nat.le_refl _) _⟩
end Go.Proofs.YtbilkeadhflibaaGreatDoor.Sel

/- What sel.holds and sel.Match answer of any terms and labels; of memory that was there nothing turns. -/
namespace Go.Proofs.YtbilkeadhflibaaGreatDoor.Sel
open Go.RowKit Go.Proofs.YtbilkeadhflibaaGreatDoor.Texts Go.Proofs.YtbilkeadhflibaaGreatDoor.Word Go.Proofs.YtbilkeadhflibaaGreatDoor.Label

theorem three_cells {w : World} {g : Nat} {a b c : Value} {T : TypeId} (h : w.heap[g]? = some (.cells #[a, b, c] T)) : w.cell? ⟨g, 0, none⟩ = some a ∧ w.cell? ⟨g, 1, none⟩ = some b ∧ w.cell? ⟨g, 2, none⟩ = some c := by
  simp [World.cell?, h]
theorem cell_new {w : World} {a b c : Value} {T : TypeId} {w' : World} (hb : Below (w.alloc (.cells #[a, b, c] T)).heap.size (w.alloc (.cells #[a, b, c] T)) w') : w.heap.size < w'.heap.size ∧ w'.cell? ⟨w.heap.size, 0, none⟩ = some a ∧ w'.cell? ⟨w.heap.size, 1, none⟩ = some b ∧ w'.cell? ⟨w.heap.size, 2, none⟩ = some c := by
  obtain ⟨h0, h1, h2⟩ := three_cells (heap_alloc_new w (.cells #[a, b, c] T))
  have hs : (w.alloc (.cells #[a, b, c] T)).heap.size = w.heap.size + 1 := Array.size_push ..
  have := hb.size
  exact ⟨by omega, (hb.cell (p := ⟨w.heap.size, 0, none⟩) (by rw [hs]; simp)).trans h0, (hb.cell (p := ⟨w.heap.size, 1, none⟩) (by rw [hs]; simp)).trans h1, (hb.cell (p := ⟨w.heap.size, 2, none⟩) (by rw [hs]; simp)).trans h2⟩
theorem method_none (f : Nat) (w : World) : (method (f + 1) 184 (.agg #[]) "demesne/sel.lets").run Tryz.prog w = .ok (198, .agg #[]) w := by kernel_rfl
theorem method_some (f : Nat) (v : Value) (w : World) : (method (f + 1) 162 v "demesne/sel.lets").run Tryz.prog w = .ok (197, v) w := by kernel_rfl
theorem grows {a b c : World} (h1 : Below a.heap.size a b) (h2 : Below b.heap.size b c) : Below a.heap.size a c := h1.trans (h2.mono h1.size)
theorem grew (w : World) (o : Obj) : Below w.heap.size w (w.alloc o) := (Below.refl _ _).alloc (Nat.le_refl _) _




/-- A term as a value. -/
def TermV (w : World) (v : Value) (t : Tm) : Prop := ∃ s, v = .agg #[.string t.1, .bool t.2.1, s] ∧ SRow w s t.2.2
theorem TermV.below {w w' : World} {v : Value} {t : Tm} (h : TermV w v t) (hb : Below w.heap.size w w') : TermV w' v t := by
  obtain ⟨s, rfl, hs⟩ := h
  exact ⟨s, rfl, hs.below hb⟩
theorem among_eq (x : ByteArray) (vs : List ByteArray) : among x vs = vs.any (fun y => y.toList == x.toList) := by
  unfold among
  congr 1
  funext y
  exact Bool.beq_comm ..
end Go.Proofs.YtbilkeadhflibaaGreatDoor.Sel

/- What sel.Match answers of any selector and any labels; of memory that was there nothing turns. -/
namespace Go.Proofs.YtbilkeadhflibaaGreatDoor.Sel
open Go.RowKit Go.Proofs.YtbilkeadhflibaaGreatDoor.Texts Go.Proofs.YtbilkeadhflibaaGreatDoor.Word Go.Proofs.YtbilkeadhflibaaGreatDoor.Label

/-- How long a selector may be for the walks here. -/
def Fair (ls : List Tm) : Prop := ls.length ≤ 4611686018427387904 ∧ ∀ t ∈ ls, t.1.size ≤ 4611686018427387904 ∧ t.2.2.length ≤ 4611686018427387904 ∧ ∀ x ∈ t.2.2, x.size ≤ 4611686018427387904
theorem matchS_take {f : ByteArray → Option ByteArray} {ls : List Tm} {k : Nat} {t : Tm} (ht : ls[k]? = some t) (h : matchS f (ls.take k) = true) : matchS f (ls.take (k + 1)) = holdsT (f t.1) t := by
  unfold matchS at *
  rw [List.take_add_one, ht, List.all_append, h]
  simp
theorem matchS_no {f : ByteArray → Option ByteArray} {ls : List Tm} {k : Nat} {t : Tm} (ht : ls[k]? = some t) (h : holdsT (f t.1) t = false) : matchS f ls = false := by
  unfold matchS
  rw [List.all_eq_false]
  exact ⟨t, List.mem_of_getElem? ht, by rw [h]; simp⟩

end Go.Proofs.YtbilkeadhflibaaGreatDoor.Sel

/- What sel.rising and sel.isWrong answer of any texts and any term; of memory that was there nothing turns. -/
namespace Go.Proofs.YtbilkeadhflibaaGreatDoor.Sel
open Go.RowKit Go.Proofs.YtbilkeadhflibaaGreatDoor.Texts Go.Proofs.YtbilkeadhflibaaGreatDoor.Word Go.Proofs.YtbilkeadhflibaaGreatDoor.Label Go.Sort

theorem lessB_irrefl (x : ByteArray) : lessB x x = false := by
  unfold lessB; rw [bytesLess_eq]; simp [List.lt_irrefl]
theorem lessB_asymm {x y : ByteArray} (h : lessB x y = true) : lessB y x = false := by
  cases hh : lessB y x with
  | false => rfl
  | true =>
    unfold lessB at *; rw [bytesLess_eq, decide_eq_true_eq] at h hh
    exact absurd (List.lt_trans h hh) (List.lt_irrefl _)
theorem lessB_total {x y : ByteArray} (h1 : lessB y x = false) (h2 : (x.toList == y.toList) = false) : lessB x y = true := by
  unfold lessB at *; rw [bytesLess_eq, decide_eq_false_iff_not, List.not_lt] at h1; rw [bytesLess_eq, decide_eq_true_eq]
  rcases List.le_iff_lt_or_eq.1 h1 with h | h
  · exact h
  · rw [h] at h2; simp at h2
theorem lessB_ne {x y : ByteArray} (h : lessB x y = true) : (x.toList == y.toList) = false := by
  rw [beq_eq_false_iff_ne]
  intro e
  unfold lessB at h
  rw [e, bytesLess_eq] at h
  simp [List.lt_irrefl] at h

/-- Names that rise. -/
def fitV (ts : List ByteArray) : Bool := ts.all (fun v => right v.data.toList) && risesV ts
theorem risesV_snoc : ∀ (ts : List ByteArray) (y x : ByteArray), risesV (ts ++ [y, x]) = (risesV (ts ++ [y]) && lessB y x)
  | [], y, x => by simp [risesV]
  | [a], y, x => by simp [risesV]
  | a :: b :: r, y, x => by
    have := risesV_snoc (b :: r) y x
    simp only [List.cons_append, risesV] at this ⊢
    rw [this, Bool.and_assoc]
theorem risesV_le : ∀ (ts us : List ByteArray), risesV (ts ++ us) = true → risesV ts = true
  | [], us, _ => rfl
  | [a], us, _ => rfl
  | a :: b :: r, us, h => by
    simp only [List.cons_append, risesV, Bool.and_eq_true] at h ⊢
    exact ⟨h.1, risesV_le (b :: r) us h.2⟩
theorem fitV_take {ts : List ByteArray} (h : fitV ts = true) (k : Nat) : fitV (ts.take k) = true := by
  unfold fitV at *
  rw [Bool.and_eq_true, List.all_eq_true] at *
  exact ⟨fun x hx => h.1 x (List.mem_of_mem_take hx), risesV_le (ts.take k) (ts.drop k) (by rw [List.take_append_drop]; exact h.2)⟩
theorem fitV_zero {ts : List ByteArray} {x : ByteArray} (hx : ts[0]? = some x) : fitV (ts.take 1) = right x.data.toList := by
  unfold fitV
  rw [List.take_add_one, hx]
  simp [risesV]
theorem fitV_more {ts : List ByteArray} {j : Nat} {x y : ByteArray} (hx : ts[j + 1]? = some x) (hy : ts[j]? = some y) (h : fitV (ts.take (j + 1)) = true) : fitV (ts.take (j + 1 + 1)) = (right x.data.toList && lessB y x) := by
  unfold fitV at *
  rw [Bool.and_eq_true] at h
  have e1 : ts.take (j + 1) = ts.take j ++ [y] := by rw [List.take_add_one, hy]; rfl
  have e2 : ts.take (j + 1 + 1) = ts.take j ++ [y, x] := by rw [List.take_add_one, hx, e1]; simp
  rw [e1] at h
  rw [e2, risesV_snoc, h.2]
  have h1 := h.1
  rw [List.all_append] at h1 ⊢
  simp only [Bool.and_eq_true] at h1
  rw [h1.1]
  simp at h1
  simp [h1.2]
theorem fitV_no {ts : List ByteArray} {k : Nat} (h : fitV (ts.take k) = false) : fitV ts = false := by
  cases hh : fitV ts with
  | false => rfl
  | true => rw [fitV_take hh k] at h; cases h

set_option maxHeartbeats 1000000 in
set_option maxRecDepth 100000 in
theorem rising_any (v : Value) (ts : List ByteArray) (w : World) (hv : SRow w v ts) (hl : ts.length ≤ 4611686018427387904) :
    Calls Tryz.prog 106 #[v] w fun e w' => e = .returned (.bool (fitV ts)) ∧ Below w.heap.size w w' := by
  obtain ⟨a, cap, rfl, hcap, hm⟩ := hv.slice
  have HV := Lib.hid hv
  clear hv
  go_enter Tryz.func106, Tryz.ntmps106
  go_wp2
  go_loopw [7] (fun i wr => ∃ k : Nat, k ≤ ts.length ∧ i = .int .i64 k ∧ fitV (ts.take k) = true ∧ Below w.heap.size w wr) (fun i _ => ts.length - (intOf i).toNat)
  case atStart => exact ⟨0, Nat.zero_le _, rfl, rfl, Below.refl _ _⟩
  case round =>
    obtain ⟨k, hk, rfl, hf, hb⟩ := hrel
    have HF := Lib.hid hf
    clear hf
    by_cases hlt : k < ts.length
    · have hltz : (k : Int) < (ts.length : Int) := by omega
      obtain ⟨g, o, rfl, hg, hcell⟩ := (HV.out.below hb).cells hlt
      obtain ⟨x, hx⟩ : ∃ x, ts[k]? = some x := ⟨_, List.getElem?_eq_getElem hlt⟩
      have hc := hcell k x hx
      have HC := Lib.hid hcell
      have HX := Lib.hid hx
      obtain ⟨r, hr⟩ : ∃ r, right x.data.toList = r := ⟨_, rfl⟩
      have HR := Lib.hid hr
      have HW : Hid (∀ W, Calls Tryz.prog 89 #[.string x] W fun e w' => e = .returned (.bool r) ∧ Below W.heap.size W w') := Lib.hid fun W => by rw [← hr]; exact right_any x W
      clear hx hr hcell
      by_cases hkz : k = 0
      · have HN : Hid (fitV (ts.take (k + 1)) = r) := Lib.hid (by subst hkz; rw [fitV_zero HX.out]; exact HR.out)
        have hz0 : decide ((0 : Int) < (k : Int)) = false := decide_eq_false (by omega)
        have hz1 : ¬ (0 : Int) < (k : Int) := by omega
        have hz2 : ¬ 0 < k := by omega
        have hz3 : decide (0 < k) = false := decide_eq_false hz2
        have HKZ := Lib.hid hkz
        clear hkz
        cases r with
        | true =>
          go_wp2_with fail
          with_reducible refine (HW.out _).mono ?_
          rintro e w1 ⟨rfl, hb1⟩
          go_wp2
          go_roundw
          case rel => exact ⟨k + 1, by omega, by go_num, HN.out, grows hb hb1⟩
          case measure => simp [intOf]; omega
        | false =>
          go_wp2_with fail
          with_reducible refine (HW.out _).mono ?_
          rintro e w1 ⟨rfl, hb1⟩
          go_wp2
          go_ret
          exact ⟨by rw [fitV_no HN.out]; rfl, grows hb hb1⟩
      · obtain ⟨j, rfl⟩ : ∃ j, k = j + 1 := ⟨k - 1, by omega⟩
        obtain ⟨y, hy⟩ : ∃ y, ts[j]? = some y := ⟨_, List.getElem?_eq_getElem (by omega)⟩
        have HCY : Hid (∀ W, Below wr.heap.size wr W → W.cell? ⟨g, o + j, none⟩ = some (.string y)) := Lib.hid fun W h => (h.cell (p := ⟨g, o + j, none⟩) hg).trans (HC.out j y hy)
        obtain ⟨b, hbl⟩ : ∃ b, lessB y x = b := ⟨_, rfl⟩
        have HN : Hid (fitV (ts.take (j + 1 + 1)) = (r && b)) := Lib.hid (by rw [fitV_more HX.out hy HF.out, HR.out, hbl])
        have hwr1 : IntKind.i64.wrap (j : Int) = (j : Int) := by rw [IntKind.wrap_i64]; omega
        have hwr2 : IntKind.i64.wrap ((j : Int) + 1 - 1) = (j : Int) := by rw [Int.add_sub_cancel]; exact hwr1
        have hz1 : (0 : Int) < (j : Int) + 1 := by omega
        have hj0 : (0 : Int) ≤ (j : Int) := by omega
        have hjl : (j : Int) < (ts.length : Int) := by omega
        have hjk : (j : Int) + 1 < (ts.length : Int) := by omega
        clear hy hkz
        cases r with
        | false =>
          go_wp2_with fail
          with_reducible refine (HW.out _).mono ?_
          rintro e w1 ⟨rfl, hb1⟩
          go_wp2
          go_ret
          exact ⟨by rw [fitV_no HN.out]; rfl, grows hb hb1⟩
        | true =>
          obtain ⟨c, hcl⟩ : ∃ c, (y.toList == x.toList) = c := ⟨_, rfl⟩
          obtain ⟨d, hdl⟩ : ∃ d, lessB x y = d := ⟨_, rfl⟩
          have hor : Hid ((c || d) = !b) := Lib.hid (by
            cases b with
            | true =>
              rw [lessB_asymm hbl] at hdl
              rw [lessB_ne hbl] at hcl
              rw [← hcl, ← hdl]; rfl
            | false =>
              cases c with
              | true => rfl
              | false =>
                have h1 := lessB_total (x := x) (y := y) hbl (by rw [Bool.beq_comm]; exact hcl)
                rw [h1] at hdl
                rw [← hdl]; rfl)
          have hdl2 : Op.bytesLess x.toList y.toList = d := hdl
          have hbl2 : Op.bytesLess y.toList x.toList = b := hbl
          clear hbl hdl
          go_wp2_with fail
          with_reducible refine (HW.out _).mono ?_
          rintro e w1 ⟨rfl, hb1⟩
          have hcy := HCY.out _ hb1
          cases b with
          | true =>
            have h2 := hor.out
            obtain ⟨rfl, rfl⟩ : c = false ∧ d = false := by revert h2; cases c <;> cases d <;> simp
            clear h2
            go_wp2
            go_roundw
            case rel => exact ⟨j + 1 + 1, by omega, by go_num, HN.out, grows hb hb1⟩
            case measure => simp [intOf]; omega
          | false =>
            have h2 := hor.out
            have H2 : Hid (c = true ∨ d = true) := Lib.hid (by revert h2; cases c <;> cases d <;> simp)
            clear h2
            have HE : Hid (fitV ts = false) := Lib.hid (fitV_no (k := j + 1 + 1) (by rw [HN.out]; rfl))
            cases c with
            | true =>
              cases d with
              | true =>
                go_wp2
                go_ret
                exact ⟨by rw [HE.out]; rfl, grows hb hb1⟩
              | false =>
                go_wp2
                go_ret
                exact ⟨by rw [HE.out]; rfl, grows hb hb1⟩
            | false =>
              obtain rfl : d = true := by rcases H2.out with h | h; cases h; exact h
              go_wp2
              go_ret
              exact ⟨by rw [HE.out]; rfl, grows hb hb1⟩
    · have hltz : ¬ ((k : Int) < (ts.length : Int)) := by omega
      go_wp2
      go_ret
      have := HF.out
      rw [List.take_of_length_le (by omega)] at this
      exact ⟨by rw [this]; rfl, hb⟩
end Go.Proofs.YtbilkeadhflibaaGreatDoor.Sel

/- What sel.isWrong and sel.Right answer of any term and any selector; of memory that was there nothing turns. -/
namespace Go.Proofs.YtbilkeadhflibaaGreatDoor.Sel
open Go.RowKit Go.Proofs.YtbilkeadhflibaaGreatDoor.Texts Go.Proofs.YtbilkeadhflibaaGreatDoor.Word Go.Proofs.YtbilkeadhflibaaGreatDoor.Label

theorem rightT_eq (t : Tm) : rightT t = (right t.1.data.toList && (decide (t.2.2.length ≤ 4) && fitV t.2.2)) := rfl
/-- A term's lengths. -/
def FairT (t : Tm) : Prop := t.1.size ≤ 4611686018427387904 ∧ t.2.2.length ≤ 4611686018427387904 ∧ ∀ x ∈ t.2.2, x.size ≤ 4611686018427387904

set_option maxHeartbeats 1000000 in
set_option maxRecDepth 100000 in
theorem isWrong_any (v : Value) (t : Tm) (w : World) (hv : TermV w v t) (hl : t.2.2.length ≤ 4611686018427387904) :
    Calls Tryz.prog 66 #[v] w fun e w' => e = .returned (.bool (!rightT t)) ∧ Below w.heap.size w w' := by
  obtain ⟨s, rfl, hs⟩ := hv
  obtain ⟨sa, sc, rfl, _, _⟩ := hs.slice
  rw [rightT_eq]
  obtain ⟨k, n, vs⟩ := t
  simp only at hs hl ⊢
  obtain ⟨r, hr⟩ : ∃ r, right k.data.toList = r := ⟨_, rfl⟩
  have HW : Hid (∀ W, Calls Tryz.prog 89 #[.string k] W fun e w' => e = .returned (.bool r) ∧ Below W.heap.size W w') := Lib.hid fun W => by rw [← hr]; exact right_any k W
  obtain ⟨b, hb⟩ : ∃ b, fitV vs = b := ⟨_, rfl⟩
  have HG : Hid (∀ W, SRow W (.slice sa vs.length sc) vs → Calls Tryz.prog 106 #[.slice sa vs.length sc] W fun e w' => e = .returned (.bool b) ∧ Below W.heap.size W w') := Lib.hid fun W h => by rw [← hb]; exact rising_any _ vs W h hl
  have HS := Lib.hid hs
  rw [hr, hb]
  clear hr hb hs
  cases r with
  | false =>
    go_enter Tryz.func66, Tryz.ntmps66
    go_wp2_with fail
    with_reducible refine (HW.out _).mono ?_
    rintro e w1 ⟨rfl, hb1⟩
    go_wp2
    go_ret
    exact ⟨rfl, grows (grew w _) hb1⟩
  | true =>
    by_cases h4 : vs.length ≤ 4
    · have h4z : ¬ (4 : Int) < (vs.length : Int) := by omega
      have h4n : ¬ 4 < vs.length := by omega
      have h4d : decide (4 < vs.length) = false := decide_eq_false h4n
      have h4e : decide ((4 : Int) < (vs.length : Int)) = false := decide_eq_false h4z
      rw [decide_eq_true h4]
      clear h4
      go_enter Tryz.func66, Tryz.ntmps66
      go_wp2_with fail
      with_reducible refine (HW.out _).mono ?_
      rintro e w1 ⟨rfl, hb1⟩
      obtain ⟨hB, c0, c1, c2⟩ := cell_new hb1
      have hb := grows (grew w _) hb1
      clear hb1
      go_wp2_with fail
      with_reducible refine (HG.out _ (HS.out.below hb)).mono ?_
      rintro e w2 ⟨rfl, hb2⟩
      go_wp2
      go_ret
      exact ⟨by cases b <;> rfl, grows hb hb2⟩
    · have h4z : (4 : Int) < (vs.length : Int) := by omega
      have h4n : 4 < vs.length := by omega
      have h4d : decide (4 < vs.length) = true := decide_eq_true h4n
      have h4e : decide ((4 : Int) < (vs.length : Int)) = true := decide_eq_true h4z
      rw [decide_eq_false h4]
      clear h4
      go_enter Tryz.func66, Tryz.ntmps66
      go_wp2_with fail
      with_reducible refine (HW.out _).mono ?_
      rintro e w1 ⟨rfl, hb1⟩
      obtain ⟨hB, c0, c1, c2⟩ := cell_new hb1
      have hb := grows (grew w _) hb1
      clear hb1
      go_wp2
      go_ret
      exact ⟨rfl, hb⟩

def IndexedT (ls : List Tm) (w : World) (e : Ending) (w' : World) : Prop :=
  ((∃ k : Nat, e = .returned (.int .i64 k) ∧ ls.all rightT = false) ∨ (e = .returned (.int .i64 (-1)) ∧ ls.all rightT = true)) ∧ Below w.heap.size w w'
theorem all_take {ls : List Tm} {k : Nat} {t : Tm} (ht : ls[k]? = some t) (h : (ls.take k).all rightT = true) : (ls.take (k + 1)).all rightT = rightT t := by
  rw [List.take_add_one, ht, List.all_append, h]
  simp
set_option maxHeartbeats 1000000 in
set_option maxRecDepth 100000 in
theorem indexFunc_any (v : Value) (ls : List Tm) (w : World) (hv : TRow w v ls) (hl : Fair ls) :
    Calls Tryz.prog 105 #[v, .func (.func 66) #[] #[]] w (IndexedT ls w) := by
  obtain ⟨a, cap, rfl, hcap, hm⟩ := hv.slice
  have hl1 := hl.1
  have HL := Lib.hid hl
  have HV := Lib.hid hv
  clear hv hl
  go_enter Tryz.func105, Tryz.ntmps105
  go_wp2
  go_loopw [8] (fun i wr => ∃ k : Nat, k ≤ ls.length ∧ i = .int .i64 k ∧ (ls.take k).all rightT = true ∧ Below w.heap.size w wr) (fun i _ => ls.length - (intOf i).toNat)
  case atStart => exact ⟨0, Nat.zero_le _, rfl, rfl, Below.refl _ _⟩
  case round =>
    obtain ⟨k, hk, rfl, hf, hb⟩ := hrel
    have HF := Lib.hid hf
    clear hf
    by_cases hlt : k < ls.length
    · have hltz : (k : Int) < (ls.length : Int) := by omega
      obtain ⟨g, o, rfl, hg, hcell⟩ := (HV.out.below hb).cells hlt
      obtain ⟨t, ht⟩ : ∃ t, ls[k]? = some t := ⟨_, List.getElem?_eq_getElem hlt⟩
      obtain ⟨c0, c1, s, c2, hs⟩ := hcell k t ht
      obtain ⟨sa, sc, rfl, _, _⟩ := hs.slice
      have HT := Lib.hid ht
      obtain ⟨r, hr⟩ : ∃ r, rightT t = r := ⟨_, rfl⟩
      have HR := Lib.hid hr
      have HC : Hid (Calls Tryz.prog 66 #[.agg #[.string t.1, .bool t.2.1, .slice sa t.2.2.length sc]] wr fun e w' => e = .returned (.bool (!r)) ∧ Below wr.heap.size wr w') := Lib.hid (by
        rw [← hr]
        exact isWrong_any _ t wr ⟨_, rfl, hs⟩ (HL.out.2 t (List.mem_of_getElem? ht)).2.1)
      obtain ⟨tk, tn, tv⟩ := t
      clear ht hs hr hcell
      go_wp2_with fail
      with_reducible refine HC.out.mono ?_
      rintro e w1 ⟨rfl, hb1⟩
      have hb' := grows hb hb1
      cases r with
      | true =>
        go_wp2
        go_roundw
        case rel => exact ⟨k + 1, by omega, by go_num, by rw [all_take HT.out HF.out]; exact HR.out, hb'⟩
        case measure => simp [intOf]; omega
      | false =>
        go_wp2
        go_ret
        exact ⟨.inl ⟨k, rfl, List.all_eq_false.2 ⟨_, List.mem_of_getElem? HT.out, by rw [HR.out]; simp⟩⟩, hb'⟩
    · have hltz : ¬ ((k : Int) < (ls.length : Int)) := by omega
      go_wp2
      go_ret
      have := HF.out
      rw [List.take_of_length_le (by omega)] at this
      exact ⟨.inr ⟨rfl, this⟩, hb⟩

set_option maxHeartbeats 1000000 in
set_option maxRecDepth 100000 in
theorem containsFunc_any (v : Value) (ls : List Tm) (w : World) (hv : TRow w v ls) (hl : Fair ls) :
    Calls Tryz.prog 65 #[v, .func (.func 66) #[] #[]] w fun e w' => e = .returned (.bool (!ls.all rightT)) ∧ Below w.heap.size w w' := by
  have HI := Lib.hid (indexFunc_any v ls w hv hl)
  clear hv
  go_enter Tryz.func65, Tryz.ntmps65
  go_wp2_with fail
  with_reducible refine HI.out.mono ?_
  rintro e w' ⟨⟨k, rfl, h⟩ | ⟨rfl, h⟩, hb⟩
  · have HB := Lib.hid h
    clear h
    go_wp2
    go_ret
    exact ⟨by rw [HB.out]; rfl, hb⟩
  · have HB := Lib.hid h
    clear h
    go_wp2
    go_ret
    exact ⟨by rw [HB.out]; rfl, hb⟩

set_option maxHeartbeats 1000000 in
set_option maxRecDepth 100000 in
theorem right_sel (v : Value) (ls : List Tm) (w : World) (hv : TRow w v ls) (hl : Fair ls) :
    Calls Tryz.prog 28 #[v] w fun e w' => e = .returned (.bool (rightS ls)) ∧ Below w.heap.size w w' := by
  unfold rightS
  have HI := Lib.hid (containsFunc_any v ls w hv hl)
  obtain ⟨a, cap, rfl, hcap, hm⟩ := hv.slice
  clear hv
  obtain ⟨r, hr⟩ : ∃ r, ls.all rightT = r := ⟨_, rfl⟩
  rw [hr] at HI ⊢
  clear hr
  by_cases h4 : ls.length ≤ 4
  · have h4z : (ls.length : Int) ≤ 4 := by omega
    have h4d : decide (ls.length ≤ 4) = true := decide_eq_true h4
    go_enter Tryz.func28, Tryz.ntmps28
    go_wp2_with fail
    with_reducible refine HI.out.mono ?_
    rintro e w1 ⟨rfl, hb⟩
    go_wp2
    go_ret
    refine ⟨?_, hb⟩
    rw [h4d]
    cases r <;> rfl
  · have h4z : ¬ (ls.length : Int) ≤ 4 := by omega
    have h4d : decide (ls.length ≤ 4) = false := decide_eq_false h4
    go_enter Tryz.func28, Tryz.ntmps28
    go_wp2
    go_ret
    exact ⟨by first | rfl | (rw [h4d]; rfl) | (simp [h4d]; rfl), Below.refl _ _⟩
end Go.Proofs.YtbilkeadhflibaaGreatDoor.Sel

/- What slices.Equal of texts, sel.sameTerm and sel.Same answer: are they the same? Of memory that was there nothing turns. -/
namespace Go.Proofs.YtbilkeadhflibaaGreatDoor.Sel
open Go.RowKit Go.Proofs.YtbilkeadhflibaaGreatDoor.Texts Go.Proofs.YtbilkeadhflibaaGreatDoor.Word Go.Proofs.YtbilkeadhflibaaGreatDoor.Label

theorem toList_inj {a b : ByteArray} (h : a.toList = b.toList) : a = b := by
  rw [Lib.toList_data, Lib.toList_data] at h
  cases a; cases b
  congr 1
  exact Array.toList_inj.1 h
theorem beq_str (a b : ByteArray) : (a.toList == b.toList) = decide (a = b) := by
  by_cases h : a = b
  · subst h; simp
  · rw [decide_eq_false h, beq_eq_false_iff_ne]
    exact fun e => h (toList_inj e)
theorem take_same {α : Type} {xs ys : List α} {k : Nat} {x y : α} (hx : xs[k]? = some x) (hy : ys[k]? = some y) (h : xs.take k = ys.take k) (e : x = y) : xs.take (k + 1) = ys.take (k + 1) := by
  rw [List.take_add_one, List.take_add_one, hx, hy, h, e]
theorem at_same {α : Type} {xs ys : List α} {k : Nat} {x y : α} (hx : xs[k]? = some x) (hy : ys[k]? = some y) (e : x ≠ y) : xs ≠ ys := by
  rintro rfl
  rw [hx] at hy
  exact e (Option.some.inj hy)
theorem below_drewN {B : Nat} {a w : World} (h : Below B a w) : ∀ n, Below B a (w.drewN n)
  | 0 => h
  | n + 1 => (below_drewN h n).drew

set_option maxHeartbeats 1000000 in
set_option maxRecDepth 100000 in
theorem equal_lens (a a' : Option Addr) (n m c c' : Nat) (w : World) (h : n ≠ m) :
    Calls Tryz.prog 128 #[.slice a n c, .slice a' m c'] w fun e w' => e = .returned (.bool false) ∧ w' = w := by
  have hne : ((n : Int) != (m : Int)) = true := by simp; omega
  have hne' : ((n : Int) == (m : Int)) = false := by simp; omega
  go_enter Tryz.func128, Tryz.ntmps128
  go_wp2
  go_ret
  exact ⟨rfl, rfl⟩
set_option maxHeartbeats 1000000 in
set_option maxRecDepth 100000 in
theorem equal_texts (u v : Value) (xs ys : List ByteArray) (w : World) (hu : SRow w u xs) (hv : SRow w v ys) (hl : xs.length ≤ 4611686018427387904) :
    Calls Tryz.prog 128 #[u, v] w fun e w' => e = .returned (.bool (decide (xs = ys))) ∧ Below w.heap.size w w' := by
  obtain ⟨a, cap, rfl, _, _⟩ := hu.slice
  obtain ⟨a', cap', rfl, _, _⟩ := hv.slice
  by_cases hn : xs.length = ys.length
  · have HU := Lib.hid hu
    have HV := Lib.hid hv
    have HN := Lib.hid hn
    have hne : ((xs.length : Int) != (ys.length : Int)) = false := by simp; omega
    have hne' : ((xs.length : Int) == (ys.length : Int)) = true := by simp; omega
    clear hu hv hn
    go_enter Tryz.func128, Tryz.ntmps128
    go_wp2
    go_loopw [13] (fun i wr => ∃ k : Nat, k ≤ xs.length ∧ i = .int .i64 k ∧ xs.take k = ys.take k ∧ Below w.heap.size w wr) (fun i _ => xs.length - (intOf i).toNat)
    case atStart => exact ⟨0, Nat.zero_le _, rfl, rfl, Below.refl _ _⟩
    case round =>
      obtain ⟨k, hk, rfl, hf, hb⟩ := hrel
      have HF := Lib.hid hf
      clear hf
      by_cases hlt : k < xs.length
      · have hltz : (k : Int) < (xs.length : Int) := by omega
        have hltz' : (k : Int) < (ys.length : Int) := by have := HN.out; omega
        have hlt' : k < ys.length := by have := HN.out; omega
        obtain ⟨g, o, rfl, hg, hcell⟩ := (HU.out.below hb).cells hlt
        obtain ⟨g', o', rfl, hg', hcell'⟩ := (HV.out.below hb).cells hlt'
        obtain ⟨x, hx⟩ : ∃ x, xs[k]? = some x := ⟨_, List.getElem?_eq_getElem hlt⟩
        obtain ⟨y, hy⟩ : ∃ y, ys[k]? = some y := ⟨_, List.getElem?_eq_getElem hlt'⟩
        have q1 := Quiet.cell (a := ⟨g, o + k, none⟩) hg (hcell k x hx)
        have q2 := Quiet.cell (a := ⟨g', o' + k, none⟩) hg' (hcell' k y hy)
        have HX := Lib.hid hx
        have HY := Lib.hid hy
        obtain ⟨r, hr⟩ : ∃ r, (x.toList == y.toList) = r := ⟨_, rfl⟩
        have HR : Hid (decide (x = y) = r) := Lib.hid (by rw [← beq_str]; exact hr)
        clear hx hy hcell hcell'
        cases r with
        | true =>
          go_wp2_with fail
          refine Quiet.region (by kernel_rfl) (by kernel_rfl) ?_
          repeat (go_big_quiet_step (fail))
          refine wpQuiet_nil ?_
          rintro _ ⟨pq, rfl⟩
          have hq := grows hb pq.below
          generalize pq.world = wq at hq ⊢
          go_wp2
          go_roundw
          case rel => exact ⟨k + 1, by omega, by go_num, take_same HX.out HY.out HF.out (of_decide_eq_true HR.out), hq⟩
          case measure => simp [intOf]; omega
        | false =>
          go_wp2_with fail
          refine Quiet.region (by kernel_rfl) (by kernel_rfl) ?_
          repeat (go_big_quiet_step (fail))
          refine wpQuiet_nil ?_
          rintro _ ⟨pq, rfl⟩
          have hq := grows hb pq.below
          generalize pq.world = wq at hq ⊢
          go_wp2
          go_ret
          exact ⟨by rw [decide_eq_false (at_same HX.out HY.out (of_decide_eq_false HR.out))]; rfl, hq⟩
      · have hltz : ¬ ((k : Int) < (xs.length : Int)) := by omega
        go_wp2
        go_ret
        have := HF.out
        have hN := HN.out
        rw [List.take_of_length_le (by omega), List.take_of_length_le (by omega)] at this
        exact ⟨by rw [decide_eq_true this]; rfl, hb⟩
  · refine (equal_lens a a' xs.length ys.length cap cap' w hn).mono ?_
    rintro e w' ⟨rfl, rfl⟩
    exact ⟨by rw [decide_eq_false]; intro e; exact hn (by rw [e]), Below.refl _ _⟩

set_option maxHeartbeats 1000000 in
set_option maxRecDepth 100000 in
theorem sameTerm_any (u v : Value) (t s : Tm) (w : World) (hu : TermV w u t) (hv : TermV w v s) (hl : t.2.2.length ≤ 4611686018427387904) :
    Calls Tryz.prog 92 #[u, v] w fun e w' => e = .returned (.bool (decide (t = s))) ∧ Below w.heap.size w w' := by
  obtain ⟨x, rfl, hx⟩ := hu
  obtain ⟨y, rfl, hy⟩ := hv
  obtain ⟨a, cap, rfl, _, _⟩ := hx.slice
  obtain ⟨a', cap', rfl, _, _⟩ := hy.slice
  obtain ⟨k, n, vs⟩ := t
  obtain ⟨k', n', vs'⟩ := s
  simp only at hx hy hl ⊢
  have HE : Hid (∀ W, Below w.heap.size w W → Calls Tryz.prog 128 #[.slice a vs.length cap, .slice a' vs'.length cap'] W fun e w' => e = .returned (.bool (decide (vs = vs'))) ∧ Below W.heap.size W w') := Lib.hid fun W h => equal_texts _ _ vs vs' W (hx.below h) (hy.below h) hl
  have HD : Hid (decide ((k, n, vs) = (k', n', vs')) = ((k.toList == k'.toList) && ((n == n') && decide (vs = vs')))) := Lib.hid (by
    rw [beq_str]
    by_cases h1 : k = k' <;> by_cases h2 : n = n' <;> by_cases h3 : vs = vs' <;> simp [h1, h2, h3])
  rw [HD.out]
  obtain ⟨r1, h1⟩ : ∃ r, (k.toList == k'.toList) = r := ⟨_, rfl⟩
  obtain ⟨r3, h3⟩ : ∃ r, decide (vs = vs') = r := ⟨_, rfl⟩
  rw [h3] at HE
  rw [h1, h3]
  clear HD h3 hx hy
  cases r1 with
  | false =>
    go_enter Tryz.func92, Tryz.ntmps92
    go_wp2
    go_ret
    exact ⟨rfl, grows (grew w _) (grew _ _)⟩
  | true =>
    by_cases hn : n = n'
    · subst hn
      cases n with
      | true =>
        go_enter Tryz.func92, Tryz.ntmps92
        go_wp2_with fail
        with_reducible refine (HE.out _ (grows (grew w _) (grew _ _))).mono ?_
        rintro e w1 ⟨rfl, hb⟩
        go_wp2
        go_ret
        exact ⟨by cases r3 <;> rfl, grows (grows (grew w _) (grew _ _)) hb⟩
      | false =>
        go_enter Tryz.func92, Tryz.ntmps92
        go_wp2_with fail
        with_reducible refine (HE.out _ (grows (grew w _) (grew _ _))).mono ?_
        rintro e w1 ⟨rfl, hb⟩
        go_wp2
        go_ret
        exact ⟨by cases r3 <;> rfl, grows (grows (grew w _) (grew _ _)) hb⟩
    · cases n with
      | true =>
        obtain rfl : n' = false := by cases n'; rfl; exact absurd rfl hn
        clear hn
        go_enter Tryz.func92, Tryz.ntmps92
        go_wp2
        go_ret
        exact ⟨rfl, grows (grew w _) (grew _ _)⟩
      | false =>
        obtain rfl : n' = true := by cases n'; exact absurd rfl hn; rfl
        clear hn
        go_enter Tryz.func92, Tryz.ntmps92
        go_wp2
        go_ret
        exact ⟨rfl, grows (grew w _) (grew _ _)⟩
end Go.Proofs.YtbilkeadhflibaaGreatDoor.Sel

/- What sel.Same answers of any two selectors: are they the same? Of memory that was there nothing turns. -/
namespace Go.Proofs.YtbilkeadhflibaaGreatDoor.Sel
open Go.RowKit Go.Proofs.YtbilkeadhflibaaGreatDoor.Texts Go.Proofs.YtbilkeadhflibaaGreatDoor.Word Go.Proofs.YtbilkeadhflibaaGreatDoor.Label

set_option maxHeartbeats 1000000 in
set_option maxRecDepth 100000 in
theorem equalFunc_lens (a a' : Option Addr) (n m c c' : Nat) (f : Value) (w : World) (h : n ≠ m) :
    Calls Tryz.prog 91 #[.slice a n c, .slice a' m c', f] w fun e w' => e = .returned (.bool false) ∧ w' = w := by
  have hne : ((n : Int) != (m : Int)) = true := by simp; omega
  have hne' : ((n : Int) == (m : Int)) = false := by simp; omega
  go_enter Tryz.func91, Tryz.ntmps91
  go_wp2
  go_ret
  exact ⟨rfl, rfl⟩
set_option maxHeartbeats 1000000 in
set_option maxRecDepth 100000 in
theorem equalFunc_any (u v : Value) (xs ys : List Tm) (w : World) (hu : TRow w u xs) (hv : TRow w v ys) (hl : Fair xs) :
    Calls Tryz.prog 91 #[u, v, .func (.func 92) #[] #[]] w fun e w' => e = .returned (.bool (decide (xs = ys))) ∧ Below w.heap.size w w' := by
  obtain ⟨a, cap, rfl, _, _⟩ := hu.slice
  obtain ⟨a', cap', rfl, _, _⟩ := hv.slice
  have hl1 := hl.1
  by_cases hn : xs.length = ys.length
  · have HU := Lib.hid hu
    have HV := Lib.hid hv
    have HN := Lib.hid hn
    have HL := Lib.hid hl
    have hne : ((xs.length : Int) != (ys.length : Int)) = false := by simp; omega
    have hne' : ((xs.length : Int) == (ys.length : Int)) = true := by simp; omega
    clear hu hv hn hl
    go_enter Tryz.func91, Tryz.ntmps91
    go_wp2
    go_loopw [17] (fun i wr => ∃ k : Nat, k ≤ xs.length ∧ i = .int .i64 k ∧ xs.take k = ys.take k ∧ Below w.heap.size w wr) (fun i _ => xs.length - (intOf i).toNat)
    case atStart => exact ⟨0, Nat.zero_le _, rfl, rfl, Below.refl _ _⟩
    case round =>
      obtain ⟨k, hk, rfl, hf, hb⟩ := hrel
      have HF := Lib.hid hf
      clear hf
      by_cases hlt : k < xs.length
      · have hltz : (k : Int) < (xs.length : Int) := by omega
        have hltz' : (k : Int) < (ys.length : Int) := by have := HN.out; omega
        have hlt' : k < ys.length := by have := HN.out; omega
        obtain ⟨g, o, rfl, hg, hcell⟩ := (HU.out.below hb).cells hlt
        obtain ⟨g', o', rfl, hg', hcell'⟩ := (HV.out.below hb).cells hlt'
        obtain ⟨x, hx⟩ : ∃ x, xs[k]? = some x := ⟨_, List.getElem?_eq_getElem hlt⟩
        obtain ⟨y, hy⟩ : ∃ y, ys[k]? = some y := ⟨_, List.getElem?_eq_getElem hlt'⟩
        obtain ⟨c0, c1, s, c2, hs⟩ := hcell k x hx
        obtain ⟨sa, sc, rfl, _, _⟩ := hs.slice
        obtain ⟨d0, d1, s', d2, hs'⟩ := hcell' k y hy
        obtain ⟨sa', sc', rfl, _, _⟩ := hs'.slice
        have HX := Lib.hid hx
        have HY := Lib.hid hy
        obtain ⟨r, hr⟩ : ∃ r, decide (x = y) = r := ⟨_, rfl⟩
        have HR := Lib.hid hr
        have HC : Hid (∀ W, Below wr.heap.size wr W → Calls Tryz.prog 92 #[.agg #[.string x.1, .bool x.2.1, .slice sa x.2.2.length sc], .agg #[.string y.1, .bool y.2.1, .slice sa' y.2.2.length sc']] W fun e w' => e = .returned (.bool r) ∧ Below W.heap.size W w') := Lib.hid fun W h => by
          rw [← hr]
          exact sameTerm_any _ _ x y W ⟨_, rfl, hs.below h⟩ ⟨_, rfl, hs'.below h⟩ (HL.out.2 x (List.mem_of_getElem? hx)).2.1
        obtain ⟨xk, xn, xv⟩ := x
        obtain ⟨yk, yn, yv⟩ := y
        have hgn : g' ≠ wr.heap.size := by omega
        clear hx hy hs hs' hr hcell hcell'
        go_wp2_with fail
        with_reducible refine (HC.out _ (grows (grew wr _) (grew _ _))).mono ?_
        rintro e w1 ⟨rfl, hb1⟩
        have hb' := grows hb (grows (grows (grew wr _) (grew _ _)) hb1)
        cases r with
        | true =>
          go_wp2
          go_roundw
          case rel => exact ⟨k + 1, by omega, by go_num, take_same HX.out HY.out HF.out (of_decide_eq_true HR.out), hb'⟩
          case measure => simp [intOf]; omega
        | false =>
          go_wp2
          go_ret
          exact ⟨by rw [decide_eq_false (at_same HX.out HY.out (of_decide_eq_false HR.out))]; rfl, hb'⟩
      · have hltz : ¬ ((k : Int) < (xs.length : Int)) := by omega
        go_wp2
        go_ret
        have := HF.out
        have hN := HN.out
        rw [List.take_of_length_le (by omega), List.take_of_length_le (by omega)] at this
        exact ⟨by rw [decide_eq_true this]; rfl, hb⟩
  · refine (equalFunc_lens a a' xs.length ys.length cap cap' _ w hn).mono ?_
    rintro e w' ⟨rfl, rfl⟩
    exact ⟨by rw [decide_eq_false]; intro e; exact hn (by rw [e]), Below.refl _ _⟩

set_option maxHeartbeats 1000000 in
set_option maxRecDepth 100000 in
theorem same_any (u v : Value) (xs ys : List Tm) (w : World) (hu : TRow w u xs) (hv : TRow w v ys) (hl : Fair xs) :
    Calls Tryz.prog 48 #[u, v] w fun e w' => e = .returned (.bool (decide (xs = ys))) ∧ Below w.heap.size w w' := by
  have HE := Lib.hid (equalFunc_any u v xs ys w hu hv hl)
  clear hu hv
  go_enter Tryz.func48, Tryz.ntmps48
  go_wp2_with fail
  with_reducible refine HE.out.mono ?_
  rintro e w1 ⟨rfl, hb⟩
  go_wp2
  go_ret
  exact ⟨rfl, hb⟩
end Go.Proofs.YtbilkeadhflibaaGreatDoor.Sel

/- What strings.Cut, CutPrefix and CutSuffix answer at any one byte, of every text; nothing is laid but draws. Of no layer. -/
namespace Go.Proofs.YtbilkeadhflibaaGreatDoor.Split
open Go.RowKit Go.Proofs.YtbilkeadhflibaaGreatDoor.Word Go.Proofs.YtbilkeadhflibaaGreatDoor.Forms

theorem ext_one {s : ByteArray} {c : UInt8} : ((s.extract 0 1).toList == (⟨#[c]⟩ : ByteArray).toList) = decide (s.data.toList.head? = some c) := by
  rw [Lib.toList_data, Lib.toList_data, Lib.extract_data]
  cases h : s.data.toList with
  | nil => simp
  | cons d l => simp; rw [Bool.eq_iff_iff]; simp
theorem ext_last {s : ByteArray} {c : UInt8} (h : 0 < s.size) : ((s.extract (s.size - 1) s.size).toList == (⟨#[c]⟩ : ByteArray).toList) = decide (s.data.toList.getLast? = some c) := by
  rw [Lib.toList_data, Lib.toList_data, Lib.extract_data]
  rw [← size_list] at h ⊢
  obtain ⟨l, d, e⟩ : ∃ l d, s.data.toList = l ++ [d] := ⟨_, _, (List.dropLast_concat_getLast (List.length_pos_iff.1 h)).symm⟩
  rw [e]
  simp
  rw [Bool.eq_iff_iff]
  simp
theorem ext_tail (s : ByteArray) : s.extract 1 s.size = str s.data.toList.tail := by
  rw [extract_drop]
  simp
theorem ext_init (s : ByteArray) : s.extract 0 (s.size - 1) = str s.data.toList.dropLast := by
  rw [extract_take, List.dropLast_eq_take, size_list]

set_option maxHeartbeats 1000000 in
set_option maxRecDepth 100000 in
theorem hasPrefix_any (c : UInt8) (s : ByteArray) (hs : s.size ≤ 4611686018427387904) (w : World) :
    Calls Tryz.prog 170 #[.string s, .string ⟨#[c]⟩] w fun e w' => e = .returned (.bool (decide (s.data.toList.head? = some c))) ∧ w' = w := by
  by_cases h0 : 0 < s.size
  · have HE := Lib.hid (ext_one (s := s) (c := c))
    have k0 : (1 : Int) ≤ (s.size : Int) := by omega
    have k1 : ¬ (s.size : Int) < 1 := by omega
    have k2 : 1 ≤ s.size := by omega
    have k3 : decide (1 ≤ s.size) = true := decide_eq_true k2
    have k4 : decide ((1 : Int) ≤ (s.size : Int)) = true := decide_eq_true k0
    go_enter Tryz.func170, Tryz.ntmps170
    go_wp2
    go_ret
    refine ⟨?_, rfl⟩
    rw [← HE.out]
    first | rfl | (rw [one_list]; rfl)
  · have k0 : ¬ (1 : Int) ≤ (s.size : Int) := by omega
    have k2 : ¬ 1 ≤ s.size := by omega
    have k3 : decide (1 ≤ s.size) = false := decide_eq_false k2
    have k4 : decide ((1 : Int) ≤ (s.size : Int)) = false := decide_eq_false k0
    have k5 : (s.size : Int) < 1 := by omega
    have HE : Hid (decide (s.data.toList.head? = some c) = false) := Lib.hid (by
      have : s.data.toList = [] := List.eq_nil_of_length_eq_zero (by rw [size_list]; omega)
      rw [this]; simp)
    go_enter Tryz.func170, Tryz.ntmps170
    go_wp2
    go_ret
    exact ⟨by rw [HE.out]; rfl, rfl⟩
set_option maxHeartbeats 1000000 in
set_option maxRecDepth 100000 in
theorem hasSuffix_any (c : UInt8) (s : ByteArray) (hs : s.size ≤ 4611686018427387904) (w : World) :
    Calls Tryz.prog 171 #[.string s, .string ⟨#[c]⟩] w fun e w' => e = .returned (.bool (decide (s.data.toList.getLast? = some c))) ∧ w' = w := by
  obtain ⟨r, hr⟩ : ∃ r, decide (s.data.toList.getLast? = some c) = r := ⟨_, rfl⟩
  rw [hr]
  by_cases h0 : 0 < s.size
  · have HE := Lib.hid (ext_last (s := s) (c := c) h0)
    rw [hr] at HE
    clear hr
    obtain ⟨m, hm⟩ : ∃ m, s.size = m + 1 := ⟨s.size - 1, by omega⟩
    have k0 : (1 : Int) ≤ (s.size : Int) := by omega
    have k1 : ¬ (s.size : Int) < 1 := by omega
    have k2 : 1 ≤ s.size := by omega
    have k3 : decide (1 ≤ s.size) = true := decide_eq_true k2
    have k4 : decide ((1 : Int) ≤ (s.size : Int)) = true := decide_eq_true k0
    have k6 : IntKind.i64.wrap ((s.size : Int) - 1) = (m : Int) := by rw [IntKind.wrap_i64]; omega
    have k7 : (s.size : Int) - 1 = (m : Int) := by omega
    have k8 : (m : Int) ≤ (s.size : Int) := by omega
    have k9 : (0 : Int) ≤ (m : Int) := by omega
    have HM : Hid (s.size - 1 = m) := Lib.hid (by omega)
    rw [HM.out] at HE
    clear hm HM
    go_enter Tryz.func171, Tryz.ntmps171
    go_wp2
    go_ret
    refine ⟨?_, rfl⟩
    rw [← HE.out]
    first | rfl | (rw [one_list]; rfl)
  · have k0 : ¬ (1 : Int) ≤ (s.size : Int) := by omega
    have k2 : ¬ 1 ≤ s.size := by omega
    have k3 : decide (1 ≤ s.size) = false := decide_eq_false k2
    have k4 : decide ((1 : Int) ≤ (s.size : Int)) = false := decide_eq_false k0
    have k5 : (s.size : Int) < 1 := by omega
    have HE : Hid (r = false) := Lib.hid (by
      rw [← hr]
      have : s.data.toList = [] := List.eq_nil_of_length_eq_zero (by rw [size_list]; omega)
      rw [this]; simp)
    clear hr
    go_enter Tryz.func171, Tryz.ntmps171
    go_wp2
    go_ret
    exact ⟨by rw [HE.out]; rfl, rfl⟩

set_option maxHeartbeats 1000000 in
set_option maxRecDepth 100000 in
theorem prefixL_yes (c : UInt8) (s : ByteArray) (hs : s.size ≤ 4611686018427387904) (h : s.data.toList.head? = some c) (w : World) :
    Calls Tryz.prog 156 #[.string s, .string ⟨#[c]⟩] w fun e w' => e = .returned (.tuple #[.string (str s.data.toList.tail), .bool true]) ∧ w' = w := by
  have HP := Lib.hid (hasPrefix_any c s hs w)
  rw [decide_eq_true h] at HP
  have HT := Lib.hid (ext_tail s)
  have k0 : (1 : Int) ≤ (s.size : Int) := by
    rw [← size_list]
    cases hl : s.data.toList with
    | nil => rw [hl] at h; simp at h
    | cons d l => simp; omega
  clear h
  go_enter Tryz.func156, Tryz.ntmps156
  go_wp2_with fail
  with_reducible refine HP.out.mono ?_
  rintro e w' ⟨rfl, rfl⟩
  go_wp2
  go_ret2
  exact ⟨by rw [← HT.out]; rfl, rfl⟩
set_option maxHeartbeats 1000000 in
set_option maxRecDepth 100000 in
theorem prefixL_no (c : UInt8) (s : ByteArray) (hs : s.size ≤ 4611686018427387904) (h : ¬ s.data.toList.head? = some c) (w : World) :
    Calls Tryz.prog 156 #[.string s, .string ⟨#[c]⟩] w fun e w' => e = .returned (.tuple #[.string s, .bool false]) ∧ w' = w := by
  have HP := Lib.hid (hasPrefix_any c s hs w)
  rw [decide_eq_false h] at HP
  clear h
  go_enter Tryz.func156, Tryz.ntmps156
  go_wp2_with fail
  with_reducible refine HP.out.mono ?_
  rintro e w' ⟨rfl, rfl⟩
  go_wp2
  go_ret2
  exact ⟨rfl, rfl⟩
set_option maxHeartbeats 1000000 in
set_option maxRecDepth 100000 in
theorem suffixL_yes (c : UInt8) (s : ByteArray) (hs : s.size ≤ 4611686018427387904) (h : s.data.toList.getLast? = some c) (w : World) :
    Calls Tryz.prog 158 #[.string s, .string ⟨#[c]⟩] w fun e w' => e = .returned (.tuple #[.string (str s.data.toList.dropLast), .bool true]) ∧ w' = w := by
  have HP := Lib.hid (hasSuffix_any c s hs w)
  rw [decide_eq_true h] at HP
  have HT := Lib.hid (ext_init s)
  have hpos : 0 < s.size := by
    rw [← size_list]
    cases hl : s.data.toList with
    | nil => rw [hl] at h; simp at h
    | cons d l => simp
  obtain ⟨m, hm⟩ : ∃ m, s.size = m + 1 := ⟨s.size - 1, by omega⟩
  have k6 : IntKind.i64.wrap ((s.size : Int) - 1) = (m : Int) := by rw [IntKind.wrap_i64]; omega
  have k7 : (s.size : Int) - 1 = (m : Int) := by omega
  have k8 : (m : Int) ≤ (s.size : Int) := by omega
  have k9 : (0 : Int) ≤ (m : Int) := by omega
  have HM : Hid (s.size - 1 = m) := Lib.hid (by omega)
  rw [HM.out] at HT
  clear hm HM h
  go_enter Tryz.func158, Tryz.ntmps158
  go_wp2_with fail
  with_reducible refine HP.out.mono ?_
  rintro e w' ⟨rfl, rfl⟩
  go_wp2
  go_ret2
  exact ⟨by rw [← HT.out]; rfl, rfl⟩
set_option maxHeartbeats 1000000 in
set_option maxRecDepth 100000 in
theorem suffixL_no (c : UInt8) (s : ByteArray) (hs : s.size ≤ 4611686018427387904) (h : ¬ s.data.toList.getLast? = some c) (w : World) :
    Calls Tryz.prog 158 #[.string s, .string ⟨#[c]⟩] w fun e w' => e = .returned (.tuple #[.string s, .bool false]) ∧ w' = w := by
  have HP := Lib.hid (hasSuffix_any c s hs w)
  rw [decide_eq_false h] at HP
  clear h
  go_enter Tryz.func158, Tryz.ntmps158
  go_wp2_with fail
  with_reducible refine HP.out.mono ?_
  rintro e w' ⟨rfl, rfl⟩
  go_wp2
  go_ret2
  exact ⟨rfl, rfl⟩
/-- What CutPrefix tells. -/
def preV (c : UInt8) (s : ByteArray) : Value := if s.data.toList.head? = some c then .tuple #[.string (str s.data.toList.tail), .bool true] else .tuple #[.string s, .bool false]
/-- What CutSuffix tells. -/
def sufV (c : UInt8) (s : ByteArray) : Value := if s.data.toList.getLast? = some c then .tuple #[.string (str s.data.toList.dropLast), .bool true] else .tuple #[.string s, .bool false]
set_option maxHeartbeats 1000000 in
set_option maxRecDepth 100000 in
theorem prefix_any (c : UInt8) (s : ByteArray) (hs : s.size ≤ 4611686018427387904) (w : World) :
    Calls Tryz.prog 138 #[.string s, .string ⟨#[c]⟩] w fun e w' => e = .returned (preV c s) ∧ w' = w := by
  have HP : Hid (∃ a b, preV c s = .tuple #[.string a, .bool b] ∧ Calls Tryz.prog 156 #[.string s, .string ⟨#[c]⟩] w fun e w' => e = .returned (.tuple #[.string a, .bool b]) ∧ w' = w) := Lib.hid (by
    unfold preV
    split
    · rename_i h; exact ⟨_, _, rfl, prefixL_yes c s hs h w⟩
    · rename_i h; exact ⟨_, _, rfl, prefixL_no c s hs h w⟩)
  obtain ⟨a, b, e, h⟩ := HP.out
  rw [e]
  have H := Lib.hid h
  clear h HP e
  go_enter Tryz.func138, Tryz.ntmps138
  go_wp2_with fail
  with_reducible refine H.out.mono ?_
  rintro e w' ⟨rfl, rfl⟩
  go_wp2
  go_ret2
  exact ⟨rfl, rfl⟩
set_option maxHeartbeats 1000000 in
set_option maxRecDepth 100000 in
theorem suffix_any (c : UInt8) (s : ByteArray) (hs : s.size ≤ 4611686018427387904) (w : World) :
    Calls Tryz.prog 140 #[.string s, .string ⟨#[c]⟩] w fun e w' => e = .returned (sufV c s) ∧ w' = w := by
  have HP : Hid (∃ a b, sufV c s = .tuple #[.string a, .bool b] ∧ Calls Tryz.prog 158 #[.string s, .string ⟨#[c]⟩] w fun e w' => e = .returned (.tuple #[.string a, .bool b]) ∧ w' = w) := Lib.hid (by
    unfold sufV
    split
    · rename_i h; exact ⟨_, _, rfl, suffixL_yes c s hs h w⟩
    · rename_i h; exact ⟨_, _, rfl, suffixL_no c s hs h w⟩)
  obtain ⟨a, b, e, h⟩ := HP.out
  rw [e]
  have H := Lib.hid h
  clear h HP e
  go_enter Tryz.func140, Tryz.ntmps140
  go_wp2_with fail
  with_reducible refine H.out.mono ?_
  rintro e w' ⟨rfl, rfl⟩
  go_wp2
  go_ret2
  exact ⟨rfl, rfl⟩

/-- What stands ahead of the first such byte, what behind it, and whether there is one. -/
def cutAt (l : List UInt8) (c : UInt8) : List UInt8 × List UInt8 × Bool :=
  if Lib.indexByte l c = -1 then (l, [], false) else (l.take (Lib.indexByte l c).toNat, l.drop ((Lib.indexByte l c).toNat + 1), true)
theorem cutAt_no {l : List UInt8} {c : UInt8} (h : Lib.indexByte l c = -1) : cutAt l c = (l, [], false) := by rw [cutAt, if_pos h]
theorem cutAt_yes {l : List UInt8} {c : UInt8} {i : Nat} (h : Lib.indexByte l c = i) : cutAt l c = (l.take i, l.drop (i + 1), true) := by rw [cutAt, if_neg (by omega), h]; rfl
def cutV (s : ByteArray) (c : UInt8) : Value := .tuple #[.string (str (cutAt s.data.toList c).1), .string (str (cutAt s.data.toList c).2.1), .bool (cutAt s.data.toList c).2.2]
set_option maxHeartbeats 2000000 in
set_option maxRecDepth 100000 in
theorem cutL_any (c : UInt8) (s : ByteArray) (hs : s.size ≤ 4611686018427387904) (w : World) :
    Calls Tryz.prog 157 #[.string s, .string ⟨#[c]⟩] w fun e w' => e = .returned (cutV s c) ∧ Below w.heap.size w w' := by
  rcases index_cases s.data.toList c with ⟨h, _⟩ | ⟨i, h, hlt, _, _⟩
  · have HI : Hid (∀ w, Calls Tryz.prog 162 #[.string s, .string ⟨#[c]⟩] w fun e w' => e = .returned (.int .i64 (-1)) ∧ w = w') := Lib.hid fun w => by rw [← h]; exact index_lite c s w
    have HE : Hid (cutV s c = .tuple #[.string s, .string ⟨#[]⟩, .bool false]) := Lib.hid (by unfold cutV; rw [cutAt_no h, str_data]; rfl)
    clear h
    go_enter Tryz.func157, Tryz.ntmps157
    go_wp2_with fail
    refine (HI.out _).mono ?_
    rintro e w' ⟨rfl, rfl⟩
    go_wp2
    go_ret3
    exact ⟨by rw [HE.out]; rfl, Below.refl _ _⟩
  · rw [size_list] at hlt
    have HI : Hid (∀ w, Calls Tryz.prog 162 #[.string s, .string ⟨#[c]⟩] w fun e w' => e = .returned (.int .i64 i) ∧ w = w') := Lib.hid fun w => by rw [← h]; exact index_lite c s w
    have HE : Hid (cutV s c = .tuple #[.string (s.extract 0 i), .string (s.extract (i + 1) s.size), .bool true]) := Lib.hid (by unfold cutV; rw [cutAt_yes h, extract_take, extract_drop])
    clear h
    have c1 : (i : Int) ≤ (s.size : Int) := by omega
    have c2 : (i : Int) + 1 ≤ (s.size : Int) := by omega
    have c3 : (0 : Int) ≤ (i : Int) + 1 := by omega
    have c4 : (0 : Int) ≤ (i : Int) := by omega
    go_enter Tryz.func157, Tryz.ntmps157
    go_wp2_with fail
    refine (HI.out _).mono ?_
    rintro e w' ⟨rfl, rfl⟩
    go_wp2_with fail
    go_quiet (fail)
    go_wp2
    go_ret3
    exact ⟨by rw [HE.out]; rfl, Sel.below_drewN (Below.refl _ _) _⟩
set_option maxHeartbeats 1000000 in
theorem cut_any (c : UInt8) (s : ByteArray) (hs : s.size ≤ 4611686018427387904) (w : World) :
    Calls Tryz.prog 139 #[.string s, .string ⟨#[c]⟩] w fun e w' => e = .returned (cutV s c) ∧ Below w.heap.size w w' := by
  have H := Lib.hid (cutL_any c s hs)
  unfold cutV at H ⊢
  go_enter Tryz.func139, Tryz.ntmps139
  go_wp2_with fail
  refine (H.out _).mono ?_
  rintro e w' ⟨rfl, hb⟩
  go_wp2
  go_ret3
  exact ⟨rfl, hb⟩
end Go.Proofs.YtbilkeadhflibaaGreatDoor.Split

/- How a selector's text is read piece by piece, and that this is what the document's Parse tells; no program but the cuts. -/
namespace Go.Proofs.YtbilkeadhflibaaGreatDoor.Sel
open Go.Proofs.YtbilkeadhflibaaGreatDoor.Word Go.Proofs.YtbilkeadhflibaaGreatDoor.Forms Go.Proofs.YtbilkeadhflibaaGreatDoor.Split

/-- A term of a piece, as it is read at its first equals sign. -/
def readP (q : List UInt8) : Tm :=
  if q.head? = some 33 then (str q.tail, true, []) else
  if (cutAt q 61).2.2 = false then (str q, false, []) else
  if (cutAt q 61).1.getLast? = some 33 then (str (cutAt q 61).1.dropLast, true, (cuts 124 (cutAt q 61).2.1).map str)
  else (str (cutAt q 61).1, false, (cuts 124 (cutAt q 61).2.1).map str)
theorem cutAt_free {q : List UInt8} {c : UInt8} (h : c ∉ q) : cutAt q c = (q, [], false) := by
  rcases index_cases q c with ⟨h1, _⟩ | ⟨i, _, _, h3, _⟩
  · exact cutAt_no h1
  · exact absurd (by rw [h3]; simp) h
theorem cutAt_in {q : List UInt8} {c : UInt8} (h : c ∈ q) : ∃ a b, cutAt q c = (a, b, true) ∧ q = a ++ c :: b ∧ c ∉ a := by
  rcases index_cases q c with ⟨_, h1⟩ | ⟨i, h1, _, h3, h4⟩
  · exact absurd h h1
  · exact ⟨_, _, cutAt_yes h1, h3, h4⟩
/-- Where the document's reading of a piece is right, this is the same. -/
theorem readP_of {q : List UInt8} (h : rightT (readT q) = true) : readP q = readT q := by
  unfold readP readT
  split
  · rfl
  rename_i h33
  by_cases hm : (61 : UInt8) ∈ q
  · obtain ⟨a, b, e, hq, ha⟩ := cutAt_in hm
    rw [e]
    simp only [Bool.true_eq_false, if_false]
    have hc : cuts 61 q = a :: cuts 61 b := by rw [hq, cuts_cut b ha]
    by_cases hb : (61 : UInt8) ∈ b
    · exfalso
      obtain ⟨a', b', _, hq', ha'⟩ := cutAt_in hb
      have hc2 : cuts 61 q = a :: a' :: cuts 61 b' := by rw [hc, hq', cuts_cut b' ha']
      have hne := cuts_ne 61 b'
      have h2 : twoT (cuts 61 q) = none := by
        rw [hc2]
        cases hcb : cuts 61 b' with
        | nil => exact absurd hcb hne
        | cons x r => rfl
      have hr : readT q = (str q, false, []) := by
        unfold readT
        rw [if_neg h33, h2]
      rw [hr] at h
      have h1 := (rightT_parts h).1
      rw [str_toList] at h1
      exact name_lacks 61 (by decide) (by decide) (by decide) h1 hm
    · rw [hc, cuts_free hb]
      rfl
  · rw [cutAt_free hm, cuts_free hm]
    rfl
/-- What is read right of a piece is shown as it. -/
theorem show_readP {q : List UInt8} : showT (readP q) = q := by
  unfold readP
  split
  · rename_i h
    cases q with
    | nil => simp at h
    | cons d l =>
      simp at h
      subst h
      simp [showT, str_toList]
  · split
    · simp [showT, str_toList]
    · rename_i h
      have hm : (61 : UInt8) ∈ q := by
        apply Classical.byContradiction
        intro hn
        rw [cutAt_free hn] at h
        exact h rfl
      obtain ⟨a, b, e, hq, ha⟩ := cutAt_in hm
      rw [e]
      simp only
      have hvs : (cuts 124 b).map str ≠ [] := by have := cuts_ne 124 b; simp [this]
      have hdat : ((cuts 124 b).map str).map (fun v => v.data.toList) = cuts 124 b := by
        rw [List.map_map]
        conv => rhs; rw [← List.map_id (cuts 124 b)]
        apply List.map_congr_left
        intro v _
        exact str_toList v
      split
      · rename_i hl
        unfold showT
        simp only
        rw [if_neg hvs, hdat, glue_cuts, str_toList]
        have : a.dropLast ++ [33] = a := by
          cases a with
          | nil => simp at hl
          | cons d l =>
            have := List.dropLast_concat_getLast (l := d :: l) (by simp)
            rw [List.getLast?_eq_some_getLast (by simp)] at hl
            simp only [Option.some.injEq] at hl
            rw [hl] at this
            exact this
        simp only [if_true]
        rw [← List.append_assoc, this]
        exact hq.symm
      · unfold showT
        simp only
        rw [if_neg hvs, hdat, glue_cuts, str_toList]
        simp only [Bool.false_eq_true, if_false, List.nil_append]
        exact hq.symm
/-- The right selector of a text, read piece by piece. -/
def parseP (s : ByteArray) : Option (List Tm) :=
  if s = ⟨#[45]⟩ then some [] else
  if (cuts 44 s.data.toList).length ≤ 4 ∧ (cuts 44 s.data.toList).all (fun q => rightT (readP q)) = true then some ((cuts 44 s.data.toList).map readP) else none
theorem parseP_eq (s : ByteArray) : parseP s = parseS s := by
  unfold parseP
  split
  · rename_i h
    unfold parseS
    rw [if_pos h]
  · rename_i hd
    split
    · rename_i h
      symm
      rw [parse_iff]
      have hr : rightS ((cuts 44 s.data.toList).map readP) = true := by
        unfold rightS
        rw [Bool.and_eq_true, decide_eq_true_eq, List.length_map, List.all_map]
        exact ⟨h.1, h.2⟩
      refine ⟨hr, ?_⟩
      have hne := cuts_ne 44 s.data.toList
      unfold textS
      rw [if_pos hr, if_neg (by simp [hne]), List.map_map]
      have : (cuts 44 s.data.toList).map (showT ∘ readP) = cuts 44 s.data.toList := by
        conv => rhs; rw [← List.map_id (cuts 44 s.data.toList)]
        apply List.map_congr_left
        intro q _
        exact show_readP
      rw [this, glue_cuts, str_data]
    · rename_i h
      cases hp : parseS s with
      | none => rfl
      | some ls =>
        exfalso
        obtain ⟨hr, ht⟩ := parse_back hp
        cases ls with
        | nil => exact hd (by rw [← ht]; rfl)
        | cons t ls =>
          have hts := (rightS_parts hr).2
          have hc : cuts 44 s.data.toList = (t :: ls).map showT := by
            rw [← ht, textS_cons hr, str_toList, List.map_cons, cuts_glue 44 _ _ (fun x hx => by
              obtain ⟨u, hu, rfl⟩ := List.mem_map.1 (show x ∈ (t :: ls).map showT from hx)
              exact showT_lacks (hts u hu))]
          apply h
          rw [hc, List.length_map, List.all_map, List.all_eq_true]
          refine ⟨(rightS_parts hr).1, fun u hu => ?_⟩
          have h1 := readT_show (hts u hu)
          show rightT (readP (showT u)) = true
          rw [readP_of (by rw [h1]; exact hts u hu), h1]
          exact hts u hu
end Go.Proofs.YtbilkeadhflibaaGreatDoor.Sel

/- What sel.putTerm and sel.Put answer of any term that is right and any selector; of memory that was there nothing turns. -/
namespace Go.Proofs.YtbilkeadhflibaaGreatDoor.Sel
open Go.RowKit Go.Proofs.YtbilkeadhflibaaGreatDoor.Texts Go.Proofs.YtbilkeadhflibaaGreatDoor.Word Go.Proofs.YtbilkeadhflibaaGreatDoor.Label Go.Proofs.YtbilkeadhflibaaGreatDoor.Forms

theorem str_append (a b : List UInt8) : str a ++ str b = str (a ++ b) := by
  apply ByteArray.ext
  apply Array.toList_inj.1
  rw [ByteArray.data_append, Array.toList_append, str_toList, str_toList, str_toList]
theorem text_flat (t : ByteArray) : Wire.str (Wire.putL t.size) ++ t = str (flat t) := by
  apply ByteArray.ext
  apply Array.toList_inj.1
  rw [ByteArray.data_append, Array.toList_append, str_toList, Wire.str_toList]
  rfl
theorem str_len (l : List UInt8) : (str l).size = l.length := by rw [← size_list, str_toList]
theorem wire_str (l : List UInt8) : Wire.str l = str l := by
  apply ByteArray.ext
  apply Array.toList_inj.1
  rw [str_toList, Wire.str_toList]
theorem flat_small {t : ByteArray} (h : t.size ≤ 32) : (flat t).length ≤ 42 := by
  rw [flat_len]
  have := Wire.putL_ten (u := t.size) (by omega)
  omega
/-- The form of a term but for some values. -/
def accT (t : Tm) (k : Nat) : List UInt8 := flat t.1 ++ (Wire.putL (numT t) ++ (t.2.2.take k).flatMap flat)
theorem accT_all (t : Tm) : accT t t.2.2.length = formT t := by unfold accT formT; rw [List.take_length]
theorem accT_more {t : Tm} {k : Nat} {x : ByteArray} (hx : t.2.2[k]? = some x) : accT t (k + 1) = accT t k ++ flat x := by
  unfold accT
  rw [List.take_add_one, hx]
  simp
theorem flats_small : ∀ (vs : List ByteArray), (∀ v ∈ vs, v.size ≤ 32) → (vs.flatMap flat).length ≤ 42 * vs.length
  | [], _ => by simp
  | v :: vs, h => by
    have h1 := flat_small (h v (List.mem_cons_self ..))
    have h2 := flats_small vs (fun x hx => h x (List.mem_cons_of_mem _ hx))
    rw [List.flatMap_cons, List.length_append, List.length_cons]
    omega
theorem accT_small {t : Tm} (ht : rightT t = true) (k : Nat) : (accT t k).length ≤ 300 := by
  obtain ⟨h1, h2, h3, _⟩ := rightT_parts ht
  have hn9 : numT t ≤ 9 := by unfold numT; split <;> omega
  have a1 := flat_small (name_size h1)
  have a2 := Wire.putL_ten (u := numT t) (by omega)
  have a3 := flats_small (t.2.2.take k) (fun v hv => name_size (h3 v (List.mem_of_mem_take hv)))
  have a4 := List.length_take_le k t.2.2
  have a5 : (t.2.2.take k).length ≤ 4 := by rw [List.length_take]; omega
  unfold accT
  rw [List.length_append, List.length_append]
  omega

set_option maxHeartbeats 1000000 in
set_option maxRecDepth 100000 in
theorem putTerm_any (v : Value) (t : Tm) (w : World) (hv : TermV w v t) (ht : rightT t = true) :
    Calls Tryz.prog 95 #[v] w fun e w' => e = .returned (.string (str (formT t))) ∧ Below w.heap.size w w' := by
  obtain ⟨s, rfl, hs⟩ := hv
  obtain ⟨sa, sc, rfl, _, _⟩ := hs.slice
  have HT := Lib.hid ht
  obtain ⟨h1, h2, h3, _⟩ := rightT_parts ht
  have H3 := Lib.hid h3
  have hk32 := name_size h1
  have hn9 : numT t ≤ 9 := by unfold numT; split <;> omega
  have HK : Hid (∀ W, Calls Tryz.prog 49 #[.string t.1] W fun e w' => e = .returned (.string (str (flat t.1))) ∧ Below W.heap.size W w') := Lib.hid fun W => by rw [← text_flat]; exact Wire.putText_any t.1 (by omega) W
  have HN : Hid (∀ W, Calls Tryz.prog 51 #[.int .u64 (numT t : Int)] W fun e w' => e = .returned (.string (str (Wire.putL (numT t)))) ∧ Below W.heap.size W w') := Lib.hid fun W => by rw [← wire_str]; exact Wire.put_any (numT t) (by omega) W
  have HV : Hid (∀ x ∈ t.2.2, ∀ W, Calls Tryz.prog 49 #[.string x] W fun e w' => e = .returned (.string (str (flat x))) ∧ Below W.heap.size W w') := Lib.hid fun x hx W => by rw [← text_flat]; exact Wire.putText_any x (by have := name_size (h3 x hx); omega) W
  have HS := Lib.hid hs
  have hnum : ∀ b, t.2.1 = b → (numT t : Int) = 2 * (t.2.2.length : Int) + (if b = true then 1 else 0) := fun b hb => by unfold numT; rw [hb]; split <;> simp
  have hA0 : Hid (str (flat t.1) ++ str (Wire.putL (numT t)) = str (accT t 0)) := Lib.hid (by rw [str_append]; unfold accT; simp)
  have hz1 : (str (flat t.1)).size ≤ 42 := by rw [str_len]; exact flat_small hk32
  have hz2 : (str (Wire.putL (numT t))).size ≤ 10 := by rw [str_len]; exact Wire.putL_ten (by omega)
  have HA : Hid (∀ k x, t.2.2[k]? = some x → str (accT t k) ++ str (flat x) = str (accT t (k + 1))) := Lib.hid fun k x hx => by rw [accT_more hx, str_append]
  have HAS : Hid (∀ k, (str (accT t k)).size ≤ 300) := Lib.hid fun k => by rw [str_len]; exact accT_small ht k
  have HE : Hid (accT t t.2.2.length = formT t) := Lib.hid (accT_all t)
  have hl4 : t.2.2.length ≤ 4 := h2
  obtain ⟨f1, hf1⟩ : ∃ f, f = str (flat t.1) := ⟨_, rfl⟩
  obtain ⟨f2, hf2⟩ : ∃ f, f = str (Wire.putL (numT t)) := ⟨_, rfl⟩
  rw [← hf1] at hA0 HK hz1
  rw [← hf2] at hA0 HN hz2
  obtain ⟨N, hN⟩ : ∃ N : Int, N = (numT t : Int) := ⟨_, rfl⟩
  rw [← hN] at HN hnum
  clear hf1 hf2 hs ht h1 h2 h3 hn9 hN
  obtain ⟨F, hF⟩ : ∃ F : Nat → ByteArray, F = fun k => str (accT t k) := ⟨_, rfl⟩
  have HF : Hid (F t.2.2.length = str (formT t)) := Lib.hid (by rw [hF]; simp only; rw [HE.out])
  rw [← HF.out]
  change Hid (_ = (fun k => str (accT t k)) 0) at hA0
  change Hid (∀ k x, _ → (fun k => str (accT t k)) k ++ _ = (fun k => str (accT t k)) (k + 1)) at HA
  change Hid (∀ k, ((fun k => str (accT t k)) k).size ≤ 300) at HAS
  rw [← hF] at hA0 HA HAS
  clear hF HE HF HT
  obtain ⟨k, n, vs⟩ := t
  simp only at *
  have hadd1 : ∀ w, Sem.run Tryz.prog (Op.stringOp .add f1 f2) w = .ok (.string (F 0)) w := fun w => by rw [← hA0.out]; exact run_string_add_sum w f1 f2 (by omega)
  have hw1 : IntKind.u64.wrap (vs.length : Int) = (vs.length : Int) := by rw [IntKind.wrap_u64]; omega
  have hw2 : IntKind.u64.wrap (2 * (vs.length : Int)) = 2 * (vs.length : Int) := by rw [IntKind.wrap_u64]; omega
  have hw3 : IntKind.u64.wrap (2 * (vs.length : Int) + 1) = 2 * (vs.length : Int) + 1 := by rw [IntKind.wrap_u64]; omega
  have hnn : N = 2 * (vs.length : Int) + (if n = true then 1 else 0) := hnum n rfl
  clear hnum
  cases n with
  | true =>
    simp only [if_true] at hnn
    subst hnn
    go_enter Tryz.func95, Tryz.ntmps95
    go_wp2_with fail
    with_reducible refine (HK.out _).mono ?_
    rintro e w1 ⟨rfl, hb1⟩
    go_wp2_with fail
    with_reducible refine (HN.out _).mono ?_
    rintro e w2 ⟨rfl, hb2⟩
    obtain ⟨hB, c0, c1, c2⟩ := cell_new (grows hb1 hb2)
    have hb := grows (grew w _) (grows hb1 hb2)
    have HS2 := Lib.hid (HS.out.below hb)
    clear hb1 hb2
    go_wp2_with fail
    go_loopw [4, 25] (fun acc i wr => ∃ j : Nat, j ≤ vs.length ∧ i = .int .i64 j ∧ acc = .string (F j) ∧ Below w2.heap.size w2 wr) (fun _ i _ => vs.length - (intOf i).toNat)
    case atStart => exact ⟨0, Nat.zero_le _, rfl, rfl, Below.refl _ _⟩
    case round =>
      obtain ⟨j, hj, rfl, rfl, hbr⟩ := hrel
      by_cases hlt : j < vs.length
      · have hltz : (j : Int) < (vs.length : Int) := by omega
        obtain ⟨g, o, rfl, hg, hcell⟩ := (HS2.out.below hbr).cells hlt
        obtain ⟨x, hx⟩ : ∃ x, vs[j]? = some x := ⟨_, List.getElem?_eq_getElem hlt⟩
        have hc := hcell j x hx
        have HX := Lib.hid (HV.out x (List.mem_of_getElem? hx))
        have hax := HA.out j x hx
        have hfs := HAS.out j
        have hfl : (str (flat x)).size ≤ 42 := by rw [str_len]; exact flat_small (name_size (H3.out x (List.mem_of_getElem? hx)))
        obtain ⟨fx, hfx⟩ : ∃ f, f = str (flat x) := ⟨_, rfl⟩
        rw [← hfx] at HX hax hfl
        have hadd2 : ∀ w, Sem.run Tryz.prog (Op.stringOp .add (F j) fx) w = .ok (.string (F (j + 1))) w := fun w => by rw [← hax]; exact run_string_add_sum w (F j) fx (by omega)
        clear hx hcell hfx hax
        go_wp2_with fail
        with_reducible refine (HX.out _).mono ?_
        rintro e w3 ⟨rfl, hb3⟩
        go_wp2
        go_roundw
        case rel => exact ⟨j + 1, by omega, by go_num, rfl, grows hbr hb3⟩
        case measure => simp [intOf]; omega
      · obtain rfl : j = vs.length := by omega
        go_wp2
        go_ret
        exact ⟨rfl, grows hb hbr⟩
  | false =>
    simp only [Bool.false_eq_true, if_false, Int.add_zero] at hnn
    subst hnn
    go_enter Tryz.func95, Tryz.ntmps95
    go_wp2_with fail
    with_reducible refine (HK.out _).mono ?_
    rintro e w1 ⟨rfl, hb1⟩
    go_wp2_with fail
    with_reducible refine (HN.out _).mono ?_
    rintro e w2 ⟨rfl, hb2⟩
    obtain ⟨hB, c0, c1, c2⟩ := cell_new (grows hb1 hb2)
    have hb := grows (grew w _) (grows hb1 hb2)
    have HS2 := Lib.hid (HS.out.below hb)
    clear hb1 hb2
    go_wp2_with fail
    go_loopw [4, 25] (fun acc i wr => ∃ j : Nat, j ≤ vs.length ∧ i = .int .i64 j ∧ acc = .string (F j) ∧ Below w2.heap.size w2 wr) (fun _ i _ => vs.length - (intOf i).toNat)
    case atStart => exact ⟨0, Nat.zero_le _, rfl, rfl, Below.refl _ _⟩
    case round =>
      obtain ⟨j, hj, rfl, rfl, hbr⟩ := hrel
      by_cases hlt : j < vs.length
      · have hltz : (j : Int) < (vs.length : Int) := by omega
        obtain ⟨g, o, rfl, hg, hcell⟩ := (HS2.out.below hbr).cells hlt
        obtain ⟨x, hx⟩ : ∃ x, vs[j]? = some x := ⟨_, List.getElem?_eq_getElem hlt⟩
        have hc := hcell j x hx
        have HX := Lib.hid (HV.out x (List.mem_of_getElem? hx))
        have hax := HA.out j x hx
        have hfs := HAS.out j
        have hfl : (str (flat x)).size ≤ 42 := by rw [str_len]; exact flat_small (name_size (H3.out x (List.mem_of_getElem? hx)))
        obtain ⟨fx, hfx⟩ : ∃ f, f = str (flat x) := ⟨_, rfl⟩
        rw [← hfx] at HX hax hfl
        have hadd2 : ∀ w, Sem.run Tryz.prog (Op.stringOp .add (F j) fx) w = .ok (.string (F (j + 1))) w := fun w => by rw [← hax]; exact run_string_add_sum w (F j) fx (by omega)
        clear hx hcell hfx hax
        go_wp2_with fail
        with_reducible refine (HX.out _).mono ?_
        rintro e w3 ⟨rfl, hb3⟩
        go_wp2
        go_roundw
        case rel => exact ⟨j + 1, by omega, by go_num, rfl, grows hbr hb3⟩
        case measure => simp [intOf]; omega
      · obtain rfl : j = vs.length := by omega
        go_wp2
        go_ret
        exact ⟨rfl, grows hb hbr⟩
end Go.Proofs.YtbilkeadhflibaaGreatDoor.Sel

/- What sel.Put answers of any selector; of memory that was there nothing turns. -/
namespace Go.Proofs.YtbilkeadhflibaaGreatDoor.Sel
open Go.RowKit Go.Proofs.YtbilkeadhflibaaGreatDoor.Texts Go.Proofs.YtbilkeadhflibaaGreatDoor.Word Go.Proofs.YtbilkeadhflibaaGreatDoor.Label Go.Proofs.YtbilkeadhflibaaGreatDoor.Forms

/-- The form of a selector's first terms. -/
def accS (ls : List Tm) (k : Nat) : List UInt8 := Wire.putL ls.length ++ (ls.take k).flatMap formT
theorem accS_more {ls : List Tm} {k : Nat} {t : Tm} (ht : ls[k]? = some t) : accS ls (k + 1) = accS ls k ++ formT t := by
  unfold accS
  rw [List.take_add_one, ht]
  simp
theorem form_small {t : Tm} (ht : rightT t = true) : (formT t).length ≤ 300 := by rw [← accT_all]; exact accT_small ht _
theorem forms_small : ∀ (ls : List Tm), (∀ t ∈ ls, rightT t = true) → (ls.flatMap formT).length ≤ 300 * ls.length
  | [], _ => by simp
  | t :: ls, h => by
    have h1 := form_small (h t (List.mem_cons_self ..))
    have h2 := forms_small ls (fun x hx => h x (List.mem_cons_of_mem _ hx))
    rw [List.flatMap_cons, List.length_append, List.length_cons]
    omega
theorem accS_small {ls : List Tm} (h : rightS ls = true) (k : Nat) : (accS ls k).length ≤ 1210 := by
  obtain ⟨h4, ht⟩ := rightS_parts h
  have a1 := Wire.putL_ten (u := ls.length) (by omega)
  have a2 := forms_small (ls.take k) (fun t htk => ht t (List.mem_of_mem_take htk))
  have a3 : (ls.take k).length ≤ 4 := by rw [List.length_take]; omega
  unfold accS
  rw [List.length_append]
  omega
theorem putS_small (ls : List Tm) : (putS ls).size ≤ 1210 := by
  unfold putS
  split
  · rename_i h
    rw [str_len]
    have := accS_small h ls.length
    unfold accS at this
    rwa [List.take_length] at this
  · decide

set_option maxHeartbeats 1000000 in
set_option maxRecDepth 100000 in
theorem put_sel (v : Value) (ls : List Tm) (w : World) (hv : TRow w v ls) (hl : Fair ls) :
    Calls Tryz.prog 52 #[v] w fun e w' => e = .returned (.string (putS ls)) ∧ Below w.heap.size w w' := by
  have HR := Lib.hid (right_sel v ls w hv hl)
  obtain ⟨q, hq⟩ : ∃ q, rightS ls = q := ⟨_, rfl⟩
  rw [hq] at HR
  have HV := Lib.hid hv
  obtain ⟨a, cap, rfl, _, _⟩ := hv.slice
  clear hv
  cases q with
  | false =>
    have HE : Hid (putS ls = ⟨#[]⟩) := Lib.hid (putS_no hq)
    clear hq
    go_enter Tryz.func52, Tryz.ntmps52
    go_wp2_with fail
    with_reducible refine HR.out.mono ?_
    rintro e w1 ⟨rfl, hb⟩
    go_wp2
    go_ret
    exact ⟨by rw [HE.out]; rfl, hb⟩
  | true =>
    obtain ⟨h4, hts⟩ := rightS_parts hq
    have HTS := Lib.hid hts
    have HE : Hid (putS ls = str (accS ls ls.length)) := Lib.hid (by unfold putS accS; rw [if_pos hq, List.take_length])
    have HPu : Hid (∀ W, Calls Tryz.prog 51 #[.int .u64 (ls.length : Int)] W fun e w' => e = .returned (.string (str (accS ls 0))) ∧ Below W.heap.size W w') := Lib.hid fun W => by
      have h := Wire.put_any ls.length (by omega) W
      rw [wire_str] at h
      simpa [accS] using h
    have HA : Hid (∀ k t, ls[k]? = some t → str (accS ls k) ++ str (formT t) = str (accS ls (k + 1))) := Lib.hid fun k t ht => by rw [accS_more ht, str_append]
    have HAS : Hid (∀ k, (str (accS ls k)).size ≤ 1210) := Lib.hid fun k => by rw [str_len]; exact accS_small hq k
    rw [HE.out]
    obtain ⟨F, hF⟩ : ∃ F : Nat → ByteArray, F = fun k => str (accS ls k) := ⟨_, rfl⟩
    change Calls Tryz.prog _ _ w fun e w' => e = .returned (.string ((fun k => str (accS ls k)) ls.length)) ∧ _
    change Hid (∀ W, Calls _ _ _ W fun e w' => e = .returned (.string ((fun k => str (accS ls k)) 0)) ∧ _) at HPu
    change Hid (∀ k x, _ → (fun k => str (accS ls k)) k ++ _ = (fun k => str (accS ls k)) (k + 1)) at HA
    change Hid (∀ k, ((fun k => str (accS ls k)) k).size ≤ 1210) at HAS
    rw [← hF] at HPu HA HAS ⊢
    have hw1 : IntKind.u64.wrap (ls.length : Int) = (ls.length : Int) := by rw [IntKind.wrap_u64]; omega
    clear hq hts hF HE
    go_enter Tryz.func52, Tryz.ntmps52
    go_wp2_with fail
    with_reducible refine HR.out.mono ?_
    rintro e w1 ⟨rfl, hb⟩
    go_wp2_with fail
    with_reducible refine (HPu.out _).mono ?_
    rintro e w2 ⟨rfl, hb2⟩
    have hb' := grows hb hb2
    have HV2 := Lib.hid (HV.out.below hb')
    clear hb hb2
    go_wp2_with fail
    go_loopw [2, 14] (fun acc i wr => ∃ j : Nat, j ≤ ls.length ∧ i = .int .i64 j ∧ acc = .string (F j) ∧ Below w2.heap.size w2 wr) (fun _ i _ => ls.length - (intOf i).toNat)
    case atStart => exact ⟨0, Nat.zero_le _, rfl, rfl, Below.refl _ _⟩
    case round =>
      obtain ⟨j, hj, rfl, rfl, hbr⟩ := hrel
      by_cases hlt : j < ls.length
      · have hltz : (j : Int) < (ls.length : Int) := by omega
        obtain ⟨g, o, rfl, hg, hcell⟩ := (HV2.out.below hbr).cells hlt
        obtain ⟨t, ht⟩ : ∃ t, ls[j]? = some t := ⟨_, List.getElem?_eq_getElem hlt⟩
        obtain ⟨c0, c1, s, c2, hs⟩ := hcell j t ht
        obtain ⟨sa, sc, rfl, _, _⟩ := hs.slice
        have hrt := HTS.out t (List.mem_of_getElem? ht)
        have HX : Hid (∀ W, Below wr.heap.size wr W → Calls Tryz.prog 95 #[.agg #[.string t.1, .bool t.2.1, .slice sa t.2.2.length sc]] W fun e w' => e = .returned (.string (str (formT t))) ∧ Below W.heap.size W w') := Lib.hid fun W h => putTerm_any _ t W ⟨_, rfl, hs.below h⟩ hrt
        have hax := HA.out j t ht
        have hfs := HAS.out j
        have hfl : (str (formT t)).size ≤ 300 := by rw [str_len]; exact form_small hrt
        obtain ⟨fx, hfx⟩ : ∃ f, f = str (formT t) := ⟨_, rfl⟩
        rw [← hfx] at HX hax hfl
        have hadd2 : ∀ w, Sem.run Tryz.prog (Op.stringOp .add (F j) fx) w = .ok (.string (F (j + 1))) w := fun w => by rw [← hax]; exact run_string_add_sum w (F j) fx (by omega)
        obtain ⟨tk, tn, tv⟩ := t
        clear ht hcell hfx hax hrt hs
        go_wp2_with fail
        with_reducible refine (HX.out _ (grew wr _)).mono ?_
        rintro e w3 ⟨rfl, hb3⟩
        go_wp2
        go_roundw
        case rel => exact ⟨j + 1, by omega, by go_num, rfl, grows hbr (grows (grew wr _) hb3)⟩
        case measure => simp [intOf]; omega
      · obtain rfl : j = ls.length := by omega
        go_wp2
        go_ret
        exact ⟨rfl, grows hb' hbr⟩
end Go.Proofs.YtbilkeadhflibaaGreatDoor.Sel

/- What strings.Join answers of a few texts at one byte, and sel.termText and sel.Text of any term that is right and any selector; of memory that was there nothing turns. -/
namespace Go.Proofs.YtbilkeadhflibaaGreatDoor.Sel
open Go.RowKit Go.Proofs.YtbilkeadhflibaaGreatDoor.Texts Go.Proofs.YtbilkeadhflibaaGreatDoor.Word Go.Proofs.YtbilkeadhflibaaGreatDoor.Label Go.Proofs.YtbilkeadhflibaaGreatDoor.Forms

theorem join_glue (c : UInt8) : ∀ l : List (List UInt8), Lib.join l [c] = glueC c l
  | [] => rfl
  | [a] => by rw [Lib.join_one]; rfl
  | a :: b :: r => by
    have e : Lib.join (a :: b :: r) [c] = a ++ [c] ++ Lib.join (b :: r) [c] := by simp [Lib.join, List.intercalate, List.intersperse]
    rw [e, join_glue c (b :: r)]
    simp [glueC]
theorem join_any (c : UInt8) (v : Value) (ts : List ByteArray) (w : World) (hv : SRow w v ts) (hne : ts ≠ []) (hlen : (glueC c (ts.map fun t => t.data.toList)).length ≤ 140737488355328) (hl : ts.length ≤ 140737488355328) :
    Calls Tryz.prog 59 #[v, .string ⟨#[c]⟩] w fun e w' => e = .returned (.string (str (glueC c (ts.map fun t => t.data.toList)))) ∧ Below w.heap.size w w' := by
  rcases hv with ⟨h, _⟩ | ⟨_, g, o, cap, rfl, hg, hcap, hm, hcell⟩
  · exact absurd h hne
  · have hj := Any.strings_Join LaidJ.lays156 LaidJ.Builder_Extra_156 g o cap ts ⟨#[c]⟩ w (fun j y hy => hcell j y hy) hg (by omega) hcap (by rw [join_glue]; omega)
    rw [join_glue] at hj
    exact hj

theorem glue_small (c : UInt8) : ∀ (vs : List ByteArray), (∀ v ∈ vs, v.size ≤ 32) → (glueC c (vs.map fun t => t.data.toList)).length ≤ 33 * vs.length
  | [], _ => by simp [glueC]
  | [a], h => by
    have := h a (List.mem_cons_self ..)
    rw [← size_list] at this
    simp only [List.map_cons, List.map_nil, glueC, List.length_cons, List.length_nil]
    omega
  | a :: b :: r, h => by
    have h1 := h a (List.mem_cons_self ..)
    have h2 := glue_small c (b :: r) (fun y hy => h y (List.mem_cons_of_mem _ hy))
    rw [← size_list] at h1
    simp only [List.map_cons, glueC, List.length_append, List.length_cons] at h2 ⊢
    omega
theorem show_small {t : Tm} (ht : rightT t = true) : (showT t).length ≤ 200 := by
  obtain ⟨h1, h2, h3, _⟩ := rightT_parts ht
  have a1 := name_size h1
  rw [← size_list] at a1
  have a2 := glue_small 124 t.2.2 (fun v hv => name_size (h3 v hv))
  unfold showT
  split
  · split
    · rw [List.length_cons]; omega
    · omega
  · rw [List.length_append, List.length_append, List.length_cons]
    split
    · simp only [List.length_cons, List.length_nil]; omega
    · simp only [List.length_nil]; omega
theorem assert_some (v : Value) (w : World) : Sem.run Tryz.prog (Instr.typeAssert (.iface 162 v) 165 162 true) w = .ok (.tuple #[v, .bool true]) w := by kernel_rfl
theorem assert_none (w : World) : Sem.run Tryz.prog (Instr.typeAssert (.iface 184 (.agg #[])) 165 162 true) w = .ok (.tuple #[.slice none 0 0, .bool false]) w := by kernel_rfl
theorem str_one (c : UInt8) : (⟨#[c]⟩ : ByteArray) = str [c] := rfl
theorem str_nil : (⟨#[]⟩ : ByteArray) = str [] := rfl

set_option maxHeartbeats 1000000 in
set_option maxRecDepth 100000 in
theorem termText_none (k : ByteArray) (n : Bool) (a : Option Addr) (cap : Nat) (w : World) (hk : k.size ≤ 32) :
    Calls Tryz.prog 102 #[.agg #[.string k, .bool n, .slice a 0 cap]] w fun e w' => e = .returned (.string (str (showT (k, n, [])))) ∧ Below w.heap.size w w' := by
  have HK := Lib.hid (kind_none k n a cap)
  have hta := assert_none
  cases n with
  | true =>
    have HE : Hid ((⟨#[33]⟩ : ByteArray) ++ k = str (showT (k, true, []))) := Lib.hid (by
      rw [str_one]
      conv => lhs; rhs; rw [← str_data k]
      rw [str_append]
      simp [showT])
    have hadd1 : ∀ w, Sem.run Tryz.prog (Op.stringOp .add ⟨#[33]⟩ k) w = .ok (.string (⟨#[33]⟩ ++ k)) w := fun w => run_string_add_sum w _ k (by show 1 + k.size ≤ _; omega)
    go_enter Tryz.func102, Tryz.ntmps102
    go_wp2_with fail
    with_reducible refine (HK.out _).mono ?_
    rintro e w1 ⟨rfl, hb1⟩
    obtain ⟨hB, c0, c1, c2⟩ := cell_new hb1
    have hb := grows (grew w _) hb1
    clear hb1
    go_wp2
    go_ret
    exact ⟨by rw [← HE.out]; rfl, hb⟩
  | false =>
    have HE : Hid ((⟨#[]⟩ : ByteArray) ++ k = str (showT (k, false, []))) := Lib.hid (by
      rw [str_nil]
      conv => lhs; rhs; rw [← str_data k]
      rw [str_append]
      simp [showT])
    have hadd1 : ∀ w, Sem.run Tryz.prog (Op.stringOp .add ⟨#[]⟩ k) w = .ok (.string (⟨#[]⟩ ++ k)) w := fun w => run_string_add_sum w _ k (by show 0 + k.size ≤ _; omega)
    go_enter Tryz.func102, Tryz.ntmps102
    go_wp2_with fail
    with_reducible refine (HK.out _).mono ?_
    rintro e w1 ⟨rfl, hb1⟩
    obtain ⟨hB, c0, c1, c2⟩ := cell_new hb1
    have hb := grows (grew w _) hb1
    clear hb1
    go_wp2
    go_ret
    exact ⟨by rw [← HE.out]; rfl, hb⟩

set_option maxHeartbeats 1000000 in
set_option maxRecDepth 100000 in
theorem termText_some (k : ByteArray) (n : Bool) (a : Option Addr) (cap : Nat) (vs : List ByteArray) (w : World) (hk : k.size ≤ 32) (h0 : 0 < vs.length) (hv : SRow w (.slice a vs.length cap) vs) (h4 : vs.length ≤ 4) (h32 : ∀ v ∈ vs, v.size ≤ 32) :
    Calls Tryz.prog 102 #[.agg #[.string k, .bool n, .slice a vs.length cap]] w fun e w' => e = .returned (.string (str (showT (k, n, vs)))) ∧ Below w.heap.size w w' := by
  have HK := Lib.hid (kind_some k n a vs.length cap h0)
  have hta := assert_some
  have hg := glue_small 124 vs h32
  have hne : vs ≠ [] := List.length_pos_iff.1 h0
  have HJ : Hid (∀ W W', SRow W (.slice a vs.length cap) vs → Below W.heap.size W W' → Calls Tryz.prog 59 #[.slice a vs.length cap, .string ⟨#[124]⟩] W' fun e w' => e = .returned (.string (str (glueC 124 (vs.map fun t => t.data.toList)))) ∧ Below W'.heap.size W' w') := Lib.hid fun W W' h hb => join_any 124 _ vs W' (h.below hb) hne (by omega) (by omega)
  have hj : (str (glueC 124 (vs.map fun t => t.data.toList))).size ≤ 132 := by rw [str_len]; omega
  obtain ⟨J, hJ⟩ : ∃ J, J = str (glueC 124 (vs.map fun t => t.data.toList)) := ⟨_, rfl⟩
  have HV := Lib.hid hv
  have HE : Hid (∀ sg : ByteArray, sg = (if n = true then ⟨#[33]⟩ else ⟨#[]⟩) → k ++ sg ++ ⟨#[61]⟩ ++ J = str (showT (k, n, vs))) := Lib.hid (by
    rintro sg rfl
    rw [hJ]
    conv => lhs; lhs; lhs; lhs; rw [← str_data k]
    unfold showT
    rw [if_neg hne]
    cases n with
    | true => simp only [if_true]; rw [str_one, str_one, str_append, str_append, str_append]; simp
    | false => simp only [Bool.false_eq_true, if_false]; rw [str_one, str_nil, str_append, str_append, str_append]; simp)
  rw [← hJ] at HJ hj
  clear hJ hg hne h32 hv
  have hadd3 : ∀ w sg, sg.size ≤ 1 → Sem.run Tryz.prog (Op.stringOp .add (k ++ sg ++ ⟨#[61]⟩) J) w = .ok (.string (k ++ sg ++ ⟨#[61]⟩ ++ J)) w := fun w sg hs => run_string_add_sum w _ J (by rw [ByteArray.size_append, ByteArray.size_append]; show k.size + sg.size + 1 + J.size ≤ _; omega)
  have hadd2 : ∀ w sg, sg.size ≤ 1 → Sem.run Tryz.prog (Op.stringOp .add (k ++ sg) ⟨#[61]⟩) w = .ok (.string (k ++ sg ++ ⟨#[61]⟩)) w := fun w sg hs => run_string_add_sum w _ _ (by rw [ByteArray.size_append]; show k.size + sg.size + 1 ≤ _; omega)
  have hadd1 : ∀ w sg, sg.size ≤ 1 → Sem.run Tryz.prog (Op.stringOp .add k sg) w = .ok (.string (k ++ sg)) w := fun w sg hs => run_string_add_sum w _ _ (by omega)
  cases n with
  | true =>
    have e1 := fun w => hadd1 w ⟨#[33]⟩ (by decide)
    have e2 := fun w => hadd2 w ⟨#[33]⟩ (by decide)
    have e3 := fun w => hadd3 w ⟨#[33]⟩ (by decide)
    clear hadd1 hadd2 hadd3
    go_enter Tryz.func102, Tryz.ntmps102
    go_wp2_with fail
    with_reducible refine (HK.out _).mono ?_
    rintro e w1 ⟨rfl, hb1⟩
    obtain ⟨hB, c0, c1, c2⟩ := cell_new hb1
    have hb := grows (grew w _) hb1
    have HV1 := Lib.hid (HV.out.below hb)
    clear hb1
    have q0 := Quiet.cell (a := ⟨w.heap.size, 0, none⟩) hB c0
    clear c0 c1 c2
    go_wp2_with fail
    refine Quiet.region (by kernel_rfl) (by kernel_rfl) ?_
    repeat (go_big_quiet_step (first | (go_at_call 59; (with_reducible exact Quiet.calls (HJ.out _ _ HV1.out (Quiet.Behind.below _))))))
    refine wpQuiet_nil ?_
    rintro _ ⟨pq, rfl⟩
    have hq := pq.below
    generalize pq.world = wq at hq ⊢
    go_wp2
    go_ret
    exact ⟨by rw [← HE.out _ rfl]; rfl, grows hb hq⟩
  | false =>
    have e1 := fun w => hadd1 w ⟨#[]⟩ (by decide)
    have e2 := fun w => hadd2 w ⟨#[]⟩ (by decide)
    have e3 := fun w => hadd3 w ⟨#[]⟩ (by decide)
    clear hadd1 hadd2 hadd3
    go_enter Tryz.func102, Tryz.ntmps102
    go_wp2_with fail
    with_reducible refine (HK.out _).mono ?_
    rintro e w1 ⟨rfl, hb1⟩
    obtain ⟨hB, c0, c1, c2⟩ := cell_new hb1
    have hb := grows (grew w _) hb1
    have HV1 := Lib.hid (HV.out.below hb)
    clear hb1
    have q0 := Quiet.cell (a := ⟨w.heap.size, 0, none⟩) hB c0
    clear c0 c1 c2
    go_wp2_with fail
    refine Quiet.region (by kernel_rfl) (by kernel_rfl) ?_
    repeat (go_big_quiet_step (first | (go_at_call 59; (with_reducible exact Quiet.calls (HJ.out _ _ HV1.out (Quiet.Behind.below _))))))
    refine wpQuiet_nil ?_
    rintro _ ⟨pq, rfl⟩
    have hq := pq.below
    generalize pq.world = wq at hq ⊢
    go_wp2
    go_ret
    exact ⟨by rw [← HE.out _ rfl]; rfl, grows hb hq⟩
theorem termText_any (v : Value) (t : Tm) (w : World) (hv : TermV w v t) (ht : rightT t = true) :
    Calls Tryz.prog 102 #[v] w fun e w' => e = .returned (.string (str (showT t))) ∧ Below w.heap.size w w' := by
  obtain ⟨s, rfl, hs⟩ := hv
  obtain ⟨h1, h2, h3, _⟩ := rightT_parts ht
  obtain ⟨sa, sc, rfl, _, _⟩ := hs.slice
  obtain ⟨k, n, vs⟩ := t
  cases vs with
  | nil => exact termText_none k n sa sc w (name_size h1)
  | cons v0 vs => exact termText_some k n sa sc (v0 :: vs) w (name_size h1) (by simp) hs h2 (fun v hv => name_size (h3 v hv))
end Go.Proofs.YtbilkeadhflibaaGreatDoor.Sel

/- What sel.Text answers of any selector; of memory that was there nothing turns. -/
namespace Go.Proofs.YtbilkeadhflibaaGreatDoor.Sel
open Go.RowKit Go.Proofs.YtbilkeadhflibaaGreatDoor.Texts Go.Proofs.YtbilkeadhflibaaGreatDoor.Word Go.Proofs.YtbilkeadhflibaaGreatDoor.Label Go.Proofs.YtbilkeadhflibaaGreatDoor.Forms

theorem own_below {w w' : World} {B n : Nat} {e : TypeId} {sz : Nat} {v : Value} {xs : List Value} (h : w.ownsRow B e sz v n xs) (hb : Below w.heap.size w w') : w'.ownsRow B e sz v n xs := by
  refine ⟨h.1, ?_⟩
  have h' := h
  rcases h.2 with h0 | ⟨g, cap, cur, hv, h1, h2, h3⟩
  · exact .inl h0
  · refine .inr ⟨g, cap, cur, hv, h1, ?_, h3⟩
    rw [hb.block g (h'.lt g (by rw [hv]; rfl)).2]
    exact h2
theorem infoS : (Tryz.prog.info? 9).map (fun i => (i.zero, i.size, i.bytes)) = some (some (.string ByteArray.empty), 1, 16) := by kernel_rfl
/-- The shown terms. -/
def shown (ls : List Tm) : List ByteArray := ls.map fun t => str (showT t)
theorem shown_data (ls : List Tm) : (shown ls).map (fun t => t.data.toList) = ls.map showT := by
  unfold shown
  rw [List.map_map]
  apply List.map_congr_left
  intro t _
  exact str_toList _
theorem shown_len (ls : List Tm) : (shown ls).length = ls.length := by simp [shown]
theorem glue_show (c : UInt8) : ∀ (ls : List Tm), (∀ t ∈ ls, rightT t = true) → (glueC c (ls.map showT)).length ≤ 201 * ls.length
  | [], _ => by simp [glueC]
  | [a], h => by
    have := show_small (h a (List.mem_cons_self ..))
    simp only [List.map_cons, List.map_nil, glueC, List.length_cons, List.length_nil]
    omega
  | a :: b :: r, h => by
    have h1 := show_small (h a (List.mem_cons_self ..))
    have h2 := glue_show c (b :: r) (fun y hy => h y (List.mem_cons_of_mem _ hy))
    simp only [List.map_cons, glueC, List.length_append, List.length_cons] at h2 ⊢
    omega

set_option maxHeartbeats 2000000 in
set_option maxRecDepth 100000 in
theorem text_sel (v : Value) (ls : List Tm) (w : World) (hv : TRow w v ls) (hl : Fair ls) :
    Calls Tryz.prog 60 #[v] w fun e w' => e = .returned (.string (textS ls)) ∧ Below w.heap.size w w' := by
  obtain ⟨i0, hi, hz0, hz1, hz2⟩ := info_parts infoS
  have HR := Lib.hid (right_sel v ls w hv hl)
  obtain ⟨q, hq⟩ : ∃ q, rightS ls = q := ⟨_, rfl⟩
  rw [hq] at HR
  have HV := Lib.hid hv
  obtain ⟨a, cap, rfl, _, _⟩ := hv.slice
  clear hv
  cases q with
  | false =>
    have HE : Hid (textS ls = ⟨#[63]⟩) := Lib.hid (by unfold textS; rw [if_neg (by rw [hq]; simp)])
    clear hq
    go_enter Tryz.func60, Tryz.ntmps60
    go_wp2_with fail
    with_reducible refine HR.out.mono ?_
    rintro e w1 ⟨rfl, hb⟩
    go_wp2
    go_ret
    exact ⟨by rw [HE.out]; rfl, hb⟩
  | true =>
    by_cases h0 : ls = []
    · subst h0
      have HE : Hid (textS [] = ⟨#[45]⟩) := Lib.hid rfl
      go_enter Tryz.func60, Tryz.ntmps60
      go_wp2_with fail
      refine HR.out.mono ?_
      rintro e w1 ⟨rfl, hb⟩
      go_wp2
      go_ret
      exact ⟨by rw [HE.out]; rfl, hb⟩
    · obtain ⟨h4, hts⟩ := rightS_parts hq
      have HTS := Lib.hid hts
      have HE : Hid (textS ls = str (glueC 44 (ls.map showT))) := Lib.hid (by unfold textS; rw [if_pos hq, if_neg h0])
      have hlen := List.length_pos_iff.2 h0
      have hn0 : ((ls.length : Int) == 0) = false := by rw [beq_eq_false_iff_ne]; omega
      have HJ : Hid (∀ v W, SRow W v (shown ls) → Calls Tryz.prog 59 #[v, .string ⟨#[44]⟩] W fun e w' => e = .returned (.string (textS ls)) ∧ Below W.heap.size W w') := Lib.hid fun v W h => by
        have hg := glue_show 44 ls hts
        have := join_any 44 v (shown ls) W h (fun e => by have := shown_len ls; rw [e] at this; simp at this; omega) (by rw [shown_data]; omega) (by rw [shown_len]; omega)
        rw [shown_data] at this
        rw [HE.out]
        exact this
      clear hq hts h0
      obtain ⟨TX, hTX⟩ : ∃ x, x = textS ls := ⟨_, rfl⟩
      rw [← hTX] at HJ ⊢
      clear hTX HE
      go_enter Tryz.func60, Tryz.ntmps60
      go_wp2_with fail
      with_reducible refine HR.out.mono ?_
      rintro e w1 ⟨rfl, hb⟩
      have HV1 := Lib.hid (HV.out.below hb)
      go_wp2_with fail
      go_loopw [3, 14] (fun t i wr => ∃ k : Nat, k ≤ ls.length ∧ i = .int .i64 k ∧ wr.ownsRow w1.heap.size 9 1 t k (svals (shown (ls.take k))) ∧ Below w1.heap.size w1 wr) (fun _ i _ => ls.length - (intOf i).toNat)
      case atStart => exact ⟨0, Nat.zero_le _, rfl, World.ownsRow_nil _ _ _ _, Below.refl _ _⟩
      case round =>
        obtain ⟨k, hk, rfl, hown, hbr⟩ := hrel
        by_cases hlt : k < ls.length
        · have hltz : (k : Int) < (ls.length : Int) := by omega
          obtain ⟨g, o, rfl, hg, hcell⟩ := (HV1.out.below hbr).cells hlt
          obtain ⟨t, ht⟩ : ∃ t, ls[k]? = some t := ⟨_, List.getElem?_eq_getElem hlt⟩
          obtain ⟨c0, c1, s, c2, hs⟩ := hcell k t ht
          obtain ⟨sa, sc, rfl, _, _⟩ := hs.slice
          have hrt := HTS.out t (List.mem_of_getElem? ht)
          have HX : Hid (∀ W, Below wr.heap.size wr W → Calls Tryz.prog 102 #[.agg #[.string t.1, .bool t.2.1, .slice sa t.2.2.length sc]] W fun e w' => e = .returned (.string (str (showT t))) ∧ Below W.heap.size W w') := Lib.hid fun W h => termText_any _ t W ⟨_, rfl, hs.below h⟩ hrt
          have HT : Hid (shown (ls.take (k + 1)) = shown (ls.take k) ++ [str (showT t)]) := Lib.hid (by rw [List.take_add_one, ht]; simp [shown])
          obtain ⟨fx, hfx⟩ : ∃ f, f = str (showT t) := ⟨_, rfl⟩
          rw [← hfx] at HX HT
          obtain ⟨tk, tn, tv⟩ := t
          clear ht hcell hfx hrt hs
          go_wp2_with fail
          with_reducible refine (HX.out _ (grew wr _)).mono ?_
          rintro e w3 ⟨rfl, hb3⟩
          have hb' := grows (grew wr _) hb3
          have hbA := hbr.trans (hb'.mono hbr.size)
          have hownA := own_below hown hb'
          clear hown hb3
          go_wp2_with (at_builtin; refine wpList_append_own _ rfl _ _ 28 rfl w1.heap.size 9 i0 (.string ByteArray.empty) 1 16 Tryz.underlying28 hi hz0 hz1 hz2 rfl (by decide) _ _ _ rfl (hownA.alloc _) ⟨w3.heap.size, 0, none⟩ 1 1 [.string fx] rfl rfl ?c1 ?c2 ?c3 ?c4 ?c5 ?_)
          case c1 => exact cell_one_new _ _ _
          case c2 => first | rfl | (intro u hu; simp at hu; subst hu; rfl)
          case c3 => unfold maxLen; omega
          case c4 => omega
          case c5 => have := hbA.size; simp; omega
          intro v' w4 hown' hgrow _
          have hown4 : w4.ownsRow w1.heap.size 9 1 v' (k + 1) (svals (shown (ls.take (k + 1)))) := by rw [HT.out, svals_snoc]; exact hown'
          have hb4 : Below w1.heap.size w1 w4 := (hbA.alloc hbA.size _).grown hgrow (by have := hbA.size; simp; omega) (fun k hk => (hownA.lt k hk).1)
          clear hown' hgrow hownA hbA hb'
          go_wp2
          go_roundw
          case rel => exact ⟨k + 1, by omega, by go_num, hown4, hb4⟩
          case measure => simp [intOf]; omega
        · have hkn : k = ls.length := by omega
          have hltz : ¬ ((k : Int) < (ls.length : Int)) := by omega
          have HJ2 : Hid (Calls Tryz.prog 59 #[u3, .string ⟨#[44]⟩] wr fun e w' => e = .returned (.string TX) ∧ Below wr.heap.size wr w') := Lib.hid (by
            rw [hkn, List.take_length] at hown
            exact HJ.out _ wr (own_srow (T := 9) (by rw [shown_len]; exact hown)))
          clear hown hkn
          go_wp2_with fail
          with_reducible refine HJ2.out.mono ?_
          rintro e w5 ⟨rfl, hb5⟩
          go_wp2
          go_ret
          exact ⟨rfl, grows (grows hb hbr) hb5⟩
end Go.Proofs.YtbilkeadhflibaaGreatDoor.Sel

/- What sel.split, sel.sure and sel.parseTerm answer of any text and term, where they leave by a panic too; of memory that was there nothing turns. -/
namespace Go.Proofs.YtbilkeadhflibaaGreatDoor.Sel
open Go.RowKit Go.Proofs.YtbilkeadhflibaaGreatDoor.Texts Go.Proofs.YtbilkeadhflibaaGreatDoor.Word Go.Proofs.YtbilkeadhflibaaGreatDoor.Forms Go.Proofs.YtbilkeadhflibaaGreatDoor.Split

/-- The package's own error is there. -/
def Err (w : World) : Prop := ∃ T p, w.cell? ⟨0, 0, none⟩ = some (.iface T p)
theorem Err.below {w w' : World} (h : Err w) (hb : Below w.heap.size w w') : Err w' := by
  obtain ⟨T, p, h⟩ := h
  have hl := World.block_lt_of_cell? w ⟨0, 0, none⟩ h
  exact ⟨T, p, (hb.cell (p := ⟨0, 0, none⟩) hl).trans h⟩
/-- The call left by a panic. -/
def Falls (e : Ending) : Prop := ∃ T p, e = .panicked [{ v := .iface T p, recovered := false }]

theorem srow_new {w : World} {ps : List (List UInt8)} {N : Nat} {T : TypeId} (h1 : ps ≠ []) (hN : ps.length ≤ N) (hm : N ≤ 5) : SRow (w.alloc (.cells (Lib.cellsOf (ps.map str) N) T)) (.slice (some ⟨w.heap.size, 0, none⟩) ps.length N) (ps.map str) := by
  refine .inr ⟨by simp [h1], w.heap.size, 0, N, by rw [List.length_map], ?_, by rw [List.length_map]; exact hN, by unfold maxLen; omega, fun j t hj => ?_⟩
  · show _ < (w.heap.push _).size
    simp
  · have hg : (w.alloc (.cells (Lib.cellsOf (ps.map str) N) T)).heap[w.heap.size]? = some (.cells (Lib.cellsOf (ps.map str) N) T) := by
      show (w.heap.push _)[w.heap.size]? = _
      simp
    have hc : (Lib.cellsOf (ps.map str) N)[j]? = some (.string t) := by
      unfold Lib.cellsOf
      have hjl := (List.getElem?_eq_some_iff.1 hj).1
      rw [List.getElem?_toArray, List.getElem?_append_left (by simpa using hjl), List.getElem?_map, hj]
      rfl
    rw [Nat.zero_add]
    simp only [World.cell?, hg, hc]
    rfl

/-- What is told of the pieces of a text. -/
def Pieces (ps : List (List UInt8)) (w : World) (e : Ending) (w' : World) : Prop := (∃ v, e = .returned v ∧ SRow w' v (ps.map str)) ∧ Below w.heap.size w w'
set_option maxHeartbeats 1000000 in
set_option maxRecDepth 100000 in
theorem split_yes (c : UInt8) (s : ByteArray) (hs : s.size ≤ 4611686018427387904) (h4 : (cuts c s.data.toList).length ≤ 4) (w : World) :
    Calls Tryz.prog 120 #[.string s, .string ⟨#[c]⟩, .int .i64 4] w (Pieces (cuts c s.data.toList) w) := by
  have hc4 := cutK_four c s.data.toList
  rw [size_list] at hc4
  have hcut : cutK c 4 s.data.toList = cuts c s.data.toList := by
    rcases cutK_cuts c s.data.toList with h | h
    · exact h.2
    · omega
  have hN := cutK_length c (min 5 (s.size + 1) - 1) s.data.toList
  rw [hc4, hcut] at hN
  have HS := Lib.hid (splitN_any c s hs _ rfl)
  rw [hc4, hcut] at HS
  have hne := cuts_ne c s.data.toList
  obtain ⟨ps, hps⟩ : ∃ ps, ps = cuts c s.data.toList := ⟨_, rfl⟩
  obtain ⟨N, hNe⟩ : ∃ N, N = min 5 (s.size + 1) := ⟨_, rfl⟩
  rw [← hNe] at HS hN
  rw [← hps] at HS hN h4 hne ⊢
  have HR := Lib.hid (fun w => srow_new (w := w) (T := 9) hne (N := N) (by omega) (by omega))
  have h4z : ¬ (4 : Int) < (ps.length : Int) := by omega
  clear hc4 hcut hps hNe hne
  go_enter Tryz.func120, Tryz.ntmps120
  go_wp2_with fail
  with_reducible refine (HS.out _).mono ?_
  rintro e w1 ⟨rfl, rfl⟩
  go_wp2
  go_ret
  exact ⟨⟨_, rfl, HR.out w⟩, grew _ _⟩
set_option maxHeartbeats 1000000 in
set_option maxRecDepth 100000 in
theorem split_at (c : UInt8) (s : ByteArray) (hs : s.size ≤ 4611686018427387904) (h4 : (cuts c s.data.toList).length ≤ 4) (w : World) :
    Calls Tryz.prog 120 #[.string s, .string ⟨#[c]⟩, .int .i64 4] w fun e w' => (∃ cap, e = .returned (.slice (some ⟨w.heap.size, 0, none⟩) ((cuts c s.data.toList).map str).length cap) ∧ SRow w' (.slice (some ⟨w.heap.size, 0, none⟩) ((cuts c s.data.toList).map str).length cap) ((cuts c s.data.toList).map str)) ∧ Below w.heap.size w w' := by
  have hc4 := cutK_four c s.data.toList
  rw [size_list] at hc4
  have hcut : cutK c 4 s.data.toList = cuts c s.data.toList := by
    rcases cutK_cuts c s.data.toList with h | h
    · exact h.2
    · omega
  have hN := cutK_length c (min 5 (s.size + 1) - 1) s.data.toList
  rw [hc4, hcut] at hN
  have HS := Lib.hid (splitN_any c s hs _ rfl)
  rw [hc4, hcut] at HS
  have hne := cuts_ne c s.data.toList
  obtain ⟨ps, hps⟩ : ∃ ps, ps = cuts c s.data.toList := ⟨_, rfl⟩
  obtain ⟨N, hNe⟩ : ∃ N, N = min 5 (s.size + 1) := ⟨_, rfl⟩
  rw [← hNe] at HS hN
  rw [← hps] at HS hN h4 hne ⊢
  have HR := Lib.hid (fun w => srow_new (w := w) (T := 9) hne (N := N) (by omega) (by omega))
  rw [List.length_map]
  have h4z : ¬ (4 : Int) < (ps.length : Int) := by omega
  clear hc4 hcut hps hNe hne
  go_enter Tryz.func120, Tryz.ntmps120
  go_wp2_with fail
  with_reducible refine (HS.out _).mono ?_
  rintro e w1 ⟨rfl, rfl⟩
  go_wp2
  go_ret
  exact ⟨⟨_, rfl, HR.out w⟩, grew _ _⟩
set_option maxHeartbeats 1000000 in
set_option maxRecDepth 100000 in
theorem split_no (c : UInt8) (s : ByteArray) (hs : s.size ≤ 4611686018427387904) (h4 : 4 < (cuts c s.data.toList).length) (w : World) (hE : Err w) :
    Calls Tryz.prog 120 #[.string s, .string ⟨#[c]⟩, .int .i64 4] w fun e w' => Falls e ∧ Below w.heap.size w w' := by
  have hc4 := cutK_four c s.data.toList
  rw [size_list] at hc4
  have hcut : 4 < (cutK c 4 s.data.toList).length := by
    rcases cutK_cuts c s.data.toList with h | h
    · rw [h.2] at h; omega
    · exact h.1
  have HS := Lib.hid (splitN_any c s hs _ rfl)
  rw [hc4] at HS
  obtain ⟨ps, hps⟩ : ∃ ps, ps = cutK c 4 s.data.toList := ⟨_, rfl⟩
  obtain ⟨N, hNe⟩ : ∃ N, N = min 5 (s.size + 1) := ⟨_, rfl⟩
  rw [← hNe] at HS
  rw [← hps] at HS hcut
  have h4z : (4 : Int) < (ps.length : Int) := by omega
  have HE : Hid (∀ W, Below w.heap.size w W → Err W) := Lib.hid fun W h => hE.below h
  have HS2 : Hid (∀ W, Calls Tryz.prog 88 #[.string s, .string ⟨#[c]⟩, .int .i64 5] W fun e w' => (∃ g, e = .returned (.slice (some ⟨g, 0, none⟩) ps.length N)) ∧ Below W.heap.size W w') := Lib.hid fun W => (HS.out W).mono fun e w' ⟨he, hw⟩ => ⟨⟨_, he⟩, by rw [hw]; exact grew _ _⟩
  clear hc4 hps hNe h4 hE HS
  go_enter Tryz.func120, Tryz.ntmps120
  go_wp2_with fail
  with_reducible refine (HS2.out _).mono ?_
  rintro e w1 ⟨⟨g, rfl⟩, hb⟩
  obtain ⟨T, p, hc⟩ := HE.out _ hb
  go_wp2
  exact ⟨rfl, ⟨T, p, rfl⟩, hb⟩
end Go.Proofs.YtbilkeadhflibaaGreatDoor.Sel

/- What strconv.FormatUint, Itoa and ParseUint answer of any number and of any text (by the library's contracts of their pieces), in a world in which the library's own tables and errors are there. -/
namespace Go.Proofs.YtbilkeadhflibaaGreatDoor.Job
open Go.RowKit Go.Proofs.YtbilkeadhflibaaGreatDoor.Wire Go.Sort

/-- The table of the powers of ten is there. -/
def Tab (w : World) : Prop := Lib.TabIs Tryz.prog w "internal/strconv.uint64pow10" .u64 Lib.pow10Tab
theorem tabNamed : Tryz.prog.globalNamed "internal/strconv.uint64pow10" = some 1 := by kernel_rfl
theorem Tab.below {w w' : World} (h : Tab w) (hb : Below w.heap.size w w') : Tab w' := by
  unfold Tab Lib.TabIs World.var? at h ⊢
  rw [tabNamed] at h ⊢
  simp only [Option.bind_some] at h ⊢
  have hlt : 1 < w.heap.size := by
    rcases Nat.lt_or_ge 1 w.heap.size with h' | h'
    · exact h'
    · rw [Array.getElem?_eq_none h'] at h; cases h
  rw [hb.block _ hlt]
  exact h
/-- An error of a package is there. -/
def Sentry (g : Nat) (w : World) : Prop := ∃ T p, w.cell? ⟨g, 0, none⟩ = some (.iface T p)
theorem Sentry.below {g : Nat} {w w' : World} (h : Sentry g w) (hb : Below w.heap.size w w') : Sentry g w' := by
  obtain ⟨T, p, h⟩ := h
  have hl := World.block_lt_of_cell? w ⟨g, 0, none⟩ h
  exact ⟨T, p, (hb.cell (p := ⟨g, 0, none⟩) hl).trans h⟩
structure Roots (w : World) : Prop where
  tab : Tab w
  syn : Sentry 3 w
  ran : Sentry 4 w
  err : Sel.Err w
theorem Roots.below {w w' : World} (h : Roots w) (hb : Below w.heap.size w w') : Roots w' := ⟨h.tab.below hb, h.syn.below hb, h.ran.below hb, h.err.below hb⟩
theorem Roots.later {H : Nat} {w w' : World} (h : Roots w) (hb : Below H w w') (hH : w.heap.size ≤ H) : Roots w' := h.below (hb.mono hH)

/-- A number in digits. -/
def dec (u : Nat) : ByteArray := str (Lib.decDigits u)
theorem dec_size {u : Nat} (hu : u < 18446744073709551616) : 1 ≤ (dec u).size ∧ (dec u).size ≤ 20 := by
  have h : (dec u).size = Lib.nDigits u := by
    rw [← size_list, ← Lib.decDigits_length]
    rfl
  rw [h]
  refine ⟨Lib.nDigits_pos u, ?_⟩
  by_cases h1 : 1 ≤ u
  · have := Lib.numDigits_eq u h1 hu
    split at this <;> omega
  · have : u = 0 := by omega
    subst this
    rw [Lib.nDigits_small (by omega)]
    omega

theorem holds_zero0 (w : World) (T : TypeId) (nd : Nat) (hs : nd ≤ 24) : Holds (fun (b : UInt8) => Value.int .u8 (b.toNat : Int)) (w.alloc (.cells Lib.zeros24 T)) w.heap.size 0 (Array.replicate nd (0 : UInt8)) := fun j hj => by
  have hj' : j < nd := by simpa using hj
  refine ⟨?_, World.frozen?_alloc_new _ _ _ _⟩
  rw [World.cell?_alloc_new, Lib.zeros24_at _ (by omega), getElem!_pos _ j hj]
  simp
theorem fin0 (w : World) (o : Obj) (dk : Array UInt8) (k : Nat) : Below w.heap.size w ((putRow (fun (b : UInt8) => Value.int .u8 (b.toNat : Int)) (w.alloc o) w.heap.size 0 dk).drewN k) := by
  obtain ⟨os', _, e⟩ := putRow_grow_new (fun (b : UInt8) => Value.int .u8 (b.toNat : Int)) w #[o] w.heap.size 0 dk (Nat.le_refl _)
  rw [← Sort.alloc_eq_grow] at e
  rw [e]
  exact Lib.below_grow w.heap.size w (Nat.le_refl _) k os'

set_option maxHeartbeats 6400000 in
set_option maxRecDepth 100000 in
theorem inner_any (u : Nat) (hu : u < 18446744073709551616) (w : World) (hT : Tab w) :
    Calls Tryz.prog 129 #[.int .u64 u, .int .i64 10] w fun e w' => e = .returned (.string (dec u)) ∧ Below w.heap.size w w' := by
  by_cases hs : u < 100
  · have HS := Lib.hid (fun W => Any.internal_strconv_small LaidJ.lays283 u hs W)
    have hz : (u : Int) < 100 := by omega
    have hz0 : (0 : Int) ≤ (u : Int) := by omega
    go_enter Tryz.func129, Tryz.ntmps129
    go_wp2_with fail
    refine (HS.out _).mono ?_
    rintro e w' ⟨rfl, rfl⟩
    go_wp2
    go_ret
    exact ⟨rfl, Below.refl _ _⟩
  · have hu1 : 1 ≤ u := by omega
    have hz : ¬ (u : Int) < 100 := by omega
    have hnd := dec_size hu
    have hN : (dec u).size = Lib.nDigits u := by
      rw [← size_list, ← Lib.decDigits_length]
      rfl
    rw [hN] at hnd
    have hnd20 := hnd.2
    have hal : Tryz.prog.arrayLen 176 = 24 := by kernel_rfl
    have hsl1 : ∀ W, (Instr.sliceAt 176 (.pointer (some ⟨w.heap.size, 0, none⟩)) none (some (.int .i64 (Lib.nDigits u : Int))) none).run Tryz.prog W = .ok (.slice (some ⟨w.heap.size, 0, none⟩) (Lib.nDigits u) 24) W := fun W => by
      rw [run_sliceAt_array_h W 176 ⟨w.heap.size, 0, none⟩ (by kernel_rfl) .i64 (Lib.nDigits u : Int) (by omega) (by rw [hal]; omega)]
      go_simp
    have hH0 := holds_zero0 w 176 (Lib.nDigits u) (by omega)
    have hfmt := Any.internal_strconv_formatBase10 LaidJ.lays285 w.heap.size 0 24 u (Array.replicate (Lib.nDigits u) 0) (w.alloc (.cells Lib.zeros24 176)) hH0 (by rw [Array.size_replicate]; exact Lib.lt_pow_nDigits u) hu (by rw [Array.size_replicate]; omega)
    rw [Array.size_replicate] at hfmt
    have HF := Lib.hid hfmt
    have HN := Lib.hid (fun W (h : Tab W) => Any.internal_strconv_numDigits LaidJ.laysM284 u hu1 hu W h)
    have HH0 := Lib.hid hH0
    have HT := Lib.hid (Lib.tabIs_alloc hT (.cells Lib.zeros24 176))
    clear hH0 hal hfmt hT hN hnd
    go_enter Tryz.func129, Tryz.ntmps129
    go_wp2_with fail
    refine (HN.out _ HT.out).mono ?_
    rintro e w' ⟨rfl, rfl⟩
    go_wp2_with fail
    refine HF.out.mono ?_
    rintro e w' ⟨rfl, k, v', dk, rfl, hF⟩
    have hcv : (convert 56 9 (.slice (some ⟨w.heap.size, 0, none⟩) (Lib.nDigits u) 24)).run Tryz.prog ((putRow (fun (b : UInt8) => Value.int .u8 (b.toNat : Int)) (w.alloc (.cells Lib.zeros24 176)) w.heap.size 0 dk).drewN k) = .ok (.string (dec u)) ((putRow (fun (b : UInt8) => Value.int .u8 (b.toNat : Int)) (w.alloc (.cells Lib.zeros24 176)) w.heap.size 0 dk).drewN k) := by
      have h := run_convert_bytes_back (P := Tryz.prog) ((putRow (fun (b : UInt8) => Value.int .u8 (b.toNat : Int)) (w.alloc (.cells Lib.zeros24 176)) w.heap.size 0 dk).drewN k) 56 9 5 ⟨w.heap.size, 0, none⟩ 24 (Lib.decDigits u) Tryz.underlying56 Tryz.underlying5 Tryz.underlying9 (fun j hj => by
        rw [Lib.row_is_numeral hF j hj, Lib.add_plain, World.cell?_drewN]
        exact cell?_putRow (fun (b : UInt8) => Value.int .u8 (b.toNat : Int)) _ w.heap.size 0 _ dk HH0.out (by rw [hF.size, Array.size_replicate]) j (by rw [hF.size]; rw [Lib.decDigits_length] at hj; exact hj))
      rw [Lib.decDigits_length] at h
      exact h
    have HB := Lib.hid (fin0 w (.cells Lib.zeros24 176) dk k)
    clear hF HH0 HT
    go_wp2
    go_ret
    exact ⟨rfl, HB.out⟩

set_option maxHeartbeats 1000000 in
set_option maxRecDepth 100000 in
theorem format_any (u : Nat) (hu : u < 18446744073709551616) (w : World) (hT : Tab w) :
    Calls Tryz.prog 97 #[.int .u64 u, .int .i64 10] w fun e w' => e = .returned (.string (dec u)) ∧ Below w.heap.size w w' := by
  have HI := Lib.hid (inner_any u hu w hT)
  clear hT
  obtain ⟨d, hd⟩ : ∃ d, d = dec u := ⟨_, rfl⟩
  rw [← hd] at HI ⊢
  clear hd
  go_enter Tryz.func97, Tryz.ntmps97
  go_wp2_with fail
  refine HI.out.mono ?_
  rintro e w' ⟨rfl, hb⟩
  go_wp2
  go_ret
  exact ⟨rfl, hb⟩

theorem itoa_any (u : Nat) (hu : u < 9223372036854775808) (w : World) (hT : Tab w) :
    Calls Tryz.prog 58 #[.int .i64 u] w fun e w' => e = .returned (.string (dec u)) ∧ Below w.heap.size w w' := by
  refine (Any.strconv_Itoa LaidJ.laysM171 (u : Int) (by omega) (by omega) w hT).mono ?_
  rintro e w' ⟨rfl, k, os, rfl⟩
  refine ⟨?_, Lib.below_grow w.heap.size w (Nat.le_refl _) k os⟩
  rw [Lib.itoa_nonneg]
  rfl

/-- What ParseUint reads. -/
def readU (s : ByteArray) : Option Nat := match Lib.parseUintB 64 s.data.toList with
  | .ok u => some u
  | _ => none
/-- What ParseUint answers: the number, or some number and an error. -/
def TellsU (s : ByteArray) (w : World) (e : Ending) (w' : World) : Prop := ((∃ u, readU s = some u ∧ u < 18446744073709551616 ∧ e = .returned (.tuple #[.int .u64 u, .nilIface])) ∨ (readU s = none ∧ ∃ u : Nat, u < 18446744073709551616 ∧ ∃ T p, e = .returned (.tuple #[.int .u64 u, .iface T p]))) ∧ Below w.heap.size w w'
theorem parse_uint (s : ByteArray) (hs : s.size ≤ 281474976710656) (w : World) (hR : Roots w) :
    Calls Tryz.prog 118 #[.string s, .int .i64 10, .int .i64 64] w (TellsU s w) := by
  obtain ⟨T1, p1, h1⟩ := hR.syn
  obtain ⟨T2, p2, h2⟩ := hR.ran
  cases h : Lib.parseUintB 64 s.data.toList with
  | ok u =>
    have hu := Lib.parseUintB_le h
    have hr : readU s = some u := by unfold readU; rw [h]
    refine (Any.strconv_ParseUint_10_at64_ok LaidJ.laysPu14 s (by omega) u h w).mono ?_
    rintro e w' ⟨rfl, h | h⟩
    · exact ⟨.inl ⟨u, hr, by omega, rfl⟩, by rw [h]; exact Below.refl _ _⟩
    · exact ⟨.inl ⟨u, hr, by omega, rfl⟩, by rw [h]; exact Lib.bytesWorld_below _ _ _⟩
  | range =>
    have hr : readU s = none := by unfold readU; rw [h]
    refine (Any.strconv_ParseUint_10_at64_range LaidJ.laysPu14 s hs h _ w h2 (.inr ⟨_, _, rfl⟩)).mono ?_
    rintro e w' ⟨N, rfl, _, _, hb⟩
    exact ⟨.inr ⟨hr, 18446744073709551615, by omega, _, _, rfl⟩, hb⟩
  | _ =>
    have hr : readU s = none := by unfold readU; rw [h]
    refine (Any.strconv_ParseUint_10_at64_syntax LaidJ.laysPu14 s hs h _ w h1 (.inr ⟨_, _, rfl⟩)).mono ?_
    rintro e w' ⟨N, rfl, _, _, hb⟩
    exact ⟨.inr ⟨hr, 0, by omega, _, _, rfl⟩, hb⟩

theorem parseUintM_app (M : Nat) (c : UInt8) : ∀ (l : List UInt8) (acc u : Nat), Lib.parseUintM M acc l = .ok u → Lib.parseUintM M acc (l ++ [c]) = Lib.parseUintM M u [c]
  | [], acc, u, h => by
    simp only [Lib.parseUintM] at h
    injection h with h
    subst h
    rfl
  | d :: r, acc, u, h => by
    rw [List.cons_append]
    unfold Lib.parseUintM at h ⊢
    split at h
    · rename_i h1
      rw [if_pos h1]
      split at h
      · cases h
      · rename_i h2
        rw [if_neg h2]
        split at h
        · cases h
        · rename_i h3
          rw [if_neg h3]
          exact parseUintM_app M c r _ u h
    · cases h
theorem digit_nat (x : Nat) (hx : x < 10) : (UInt8.ofNat (48 + x)).toNat = 48 + x := by
  simp only [UInt8.toNat_ofNat']
  omega
theorem parse_dec (u : Nat) (hu : u < 18446744073709551616) : Lib.parseUintM 18446744073709551615 0 (Lib.decDigits u) = .ok u := by
  induction u using Nat.strongRecOn with
  | _ u ih =>
    rw [Lib.decDigits]
    split
    · rename_i h
      simp only [Lib.parseUintM, digit_nat u h]
      rw [if_pos (by omega), if_neg (by omega), if_neg (by omega)]
      congr 1
      omega
    · rename_i h
      rw [parseUintM_app _ _ _ _ _ (ih (u / 10) (by omega) (by omega))]
      simp only [Lib.parseUintM, digit_nat (u % 10) (by omega)]
      rw [if_pos (by omega), if_neg (by omega), if_neg (by omega)]
      congr 1
      omega
theorem dec_ne (u : Nat) : Lib.decDigits u ≠ [] := by
  intro h
  have h1 := Lib.decDigits_length u
  rw [h, List.length_nil] at h1
  have := Lib.nDigits_pos u
  omega
theorem read_dec (u : Nat) (hu : u < 18446744073709551616) : readU (dec u) = some u := by
  have h : Lib.parseUintB 64 (dec u).data.toList = .ok u := by
    have hl : (dec u).data.toList = Lib.decDigits u := rfl
    rw [hl]
    unfold Lib.parseUintB
    rw [if_neg (dec_ne u)]
    exact parse_dec u hu
  unfold readU
  rw [h]
/-- The number whose only digits these are. -/
def numL (s : ByteArray) : Option Nat := match readU s with
  | some u => if dec u = s then some u else none
  | none => none
theorem numL_dec {u : Nat} (hu : u < 18446744073709551616) : numL (dec u) = some u := by
  unfold numL
  rw [read_dec u hu]
  simp
theorem numL_some {s : ByteArray} {u : Nat} (h : numL s = some u) : dec u = s ∧ readU s = some u := by
  unfold numL at h
  split at h
  · rename_i v hv
    split at h
    · rename_i hd
      injection h with h
      subst h
      exact ⟨hd, hv⟩
    · cases h
  · cases h
theorem readU_lt {s : ByteArray} {u : Nat} (h : readU s = some u) : u < 18446744073709551616 := by
  unfold readU at h
  split at h
  · rename_i v hv
    injection h with h
    subst h
    have := Lib.parseUintB_le hv
    omega
  · cases h
theorem numL_lt {s : ByteArray} {u : Nat} (h : numL s = some u) : u < 18446744073709551616 := readU_lt (numL_some h).2
theorem dec_inj {a b : Nat} (ha : a < 18446744073709551616) (hb : b < 18446744073709551616) (h : dec a = dec b) : a = b := by
  have h1 := numL_dec ha
  rw [h, numL_dec hb] at h1
  injection h1 with h1
  exact h1.symm
end Go.Proofs.YtbilkeadhflibaaGreatDoor.Job

/- What vec.Text answers of any amounts, and vec.Parse of any text: the amounts whose Text that is. -/
namespace Go.Proofs.YtbilkeadhflibaaGreatDoor.Job
open Go.RowKit Go.Proofs.YtbilkeadhflibaaGreatDoor.Wire Go.Proofs.YtbilkeadhflibaaGreatDoor.Vec Go.Proofs.YtbilkeadhflibaaGreatDoor.Forms

theorem list_eq_of_toList {a b : ByteArray} (h : a.toList = b.toList) : a = b := by
  rw [ByteArray.toList_eq, ByteArray.toList_eq] at h
  cases a; cases b
  simpa using h
/-- Four amounts. -/
abbrev V4 := Nat × Nat × Nat × Nat
def am (v : V4) : Nat → Nat
  | 0 => v.1
  | 1 => v.2.1
  | 2 => v.2.2.1
  | _ => v.2.2.2
def fair4 (v : V4) : Prop := ∀ k, k < 4 → am v k < 18446744073709551616
def vecV (v : V4) : Value := vec (am v 0) (am v 1) (am v 2) (am v 3)
theorem lt4 {k : Nat} (h : k < 4) : k = 0 ∨ k = 1 ∨ k = 2 ∨ k = 3 := by omega
theorem am_ext {v u : V4} (h : ∀ k, k < 4 → am v k = am u k) : v = u := by
  obtain ⟨a, b, c, d⟩ := v
  obtain ⟨a', b', c', d'⟩ := u
  have h0 : a = a' := h 0 (by omega)
  have h1 : b = b' := h 1 (by omega)
  have h2 : c = c' := h 2 (by omega)
  have h3 : d = d' := h 3 (by omega)
  rw [h0, h1, h2, h3]

/-! ### the text -/

def textV (v : V4) : ByteArray := joined fun k => dec (am v k)
theorem textV_list (v : V4) : (textV v).data.toList = glueC 58 [Lib.decDigits (am v 0), Lib.decDigits (am v 1), Lib.decDigits (am v 2), Lib.decDigits (am v 3)] := by
  simp [textV, joined, Lib.join, List.intercalate, glueC, dec, str]
theorem dec_chars : ∀ (u : Nat) (c : UInt8), c ∈ Lib.decDigits u → 48 ≤ c.toNat ∧ c.toNat ≤ 57 := by
  intro u
  induction u using Nat.strongRecOn with
  | _ u ih =>
    intro c hc
    rw [Lib.decDigits] at hc
    split at hc
    · rename_i h
      rw [List.mem_singleton] at hc
      subst hc
      rw [digit_nat u h]
      omega
    · rename_i h
      rcases List.mem_append.1 hc with hc | hc
      · exact ih (u / 10) (by omega) c hc
      · rw [List.mem_singleton] at hc
        subst hc
        rw [digit_nat _ (by omega)]
        omega
theorem dec_free {u : Nat} {x : UInt8} (hx : x.toNat < 48 ∨ 57 < x.toNat) : x ∉ Lib.decDigits u := fun h => by
  have := dec_chars u x h
  omega
theorem cuts_text (v : V4) : cuts 58 (textV v).data.toList = [Lib.decDigits (am v 0), Lib.decDigits (am v 1), Lib.decDigits (am v 2), Lib.decDigits (am v 3)] := by
  rw [textV_list]
  refine cuts_glue 58 _ _ fun x hx => ?_
  have h58 : ∀ u, (58 : UInt8) ∉ Lib.decDigits u := fun u => dec_free (.inr (by decide))
  simp only [List.mem_cons, List.not_mem_nil, or_false] at hx
  rcases hx with rfl | rfl | rfl | rfl <;> exact h58 _
theorem cuts_hit {l : List UInt8} {i : Nat} (h : l = l.take i ++ 58 :: l.drop (i + 1)) (hm : (58 : UInt8) ∉ l.take i) : cuts 58 l = l.take i :: cuts 58 (l.drop (i + 1)) := by
  have := cuts_cut (l.drop (i + 1)) hm
  rw [← h] at this
  exact this
theorem cutK_few : ∀ (k : Nat) (l : List UInt8), (cutK k l).length ≤ k → cutK k l = cuts 58 l
  | 0, l, h => by simp [cutK] at h
  | k + 1, l, h => by
    rcases index_cases l with ⟨h1, h2⟩ | ⟨i, h1, _, h3, h4⟩
    · rw [cutK_miss _ h1, cuts_free h2]
    · rw [cutK_hit k i h1] at h ⊢
      rw [cutK_few k _ (by simpa using h), cuts_hit h3 h4]
theorem cutK_le : ∀ (k : Nat) (l : List UInt8), (cutK k l).length ≤ (cuts 58 l).length
  | 0, l => by have := cuts_ne 58 l; have := List.length_pos_iff.2 this; simp [cutK]; omega
  | k + 1, l => by
    rcases index_cases l with ⟨h1, h2⟩ | ⟨i, h1, h2, h3, h4⟩
    · rw [cutK_miss _ h1, cuts_free h2]; exact Nat.le_refl _
    · rw [cutK_hit k i h1, cuts_hit h3 h4, List.length_cons, List.length_cons]
      have := cutK_le k (l.drop (i + 1))
      omega
theorem glue4_len (a b c d : List UInt8) : (glueC 58 [a, b, c, d]).length = a.length + (b.length + (c.length + d.length + 1) + 1) + 1 := by
  simp [glueC]
  omega
theorem textV_size {v : V4} (hv : fair4 v) : 7 ≤ (textV v).size ∧ (textV v).size ≤ 83 := by
  have h : ∀ k, k < 4 → 1 ≤ (Lib.decDigits (am v k)).length ∧ (Lib.decDigits (am v k)).length ≤ 20 := fun k hk => dec_size (hv k hk)
  have h0 := h 0 (by omega)
  have h1 := h 1 (by omega)
  have h2 := h 2 (by omega)
  have h3 := h 3 (by omega)
  rw [← size_list, textV_list, glue4_len]
  omega
/-- What is cut of a text of amounts. -/
theorem cutK_text {v : V4} (hv : fair4 v) {N : Nat} (hN : N = min 5 ((textV v).size + 1)) : cutK (N - 1) (textV v).data.toList = [Lib.decDigits (am v 0), Lib.decDigits (am v 1), Lib.decDigits (am v 2), Lib.decDigits (am v 3)] := by
  have h5 : N - 1 = 4 := by have := (textV_size hv).1; omega
  rw [h5, cutK_few 4 _ (by have := cutK_le 4 (textV v).data.toList; rw [cuts_text] at this; exact this), cuts_text]
theorem textV_inj {v u : V4} (hv : fair4 v) (hu : fair4 u) (h : textV v = textV u) : v = u := by
  have h1 := cuts_text v
  rw [h, cuts_text u] at h1
  refine am_ext fun k hk => dec_inj (hv k hk) (hu k hk) ?_
  simp only [List.cons.injEq, and_true] at h1
  unfold dec
  rcases lt4 hk with rfl | rfl | rfl | rfl
  · rw [h1.1]
  · rw [h1.2.1]
  · rw [h1.2.2.1]
  · rw [h1.2.2.2]

/-! ### Text -/

set_option maxRecDepth 100000 in
set_option maxHeartbeats 1000000 in
theorem text1T (T k : Nat) (hk : k < 4) (x : Nat) (hx : x < 18446744073709551616) (t0 t1 t2 t3 : Value) (wr : World) (hT : Tab wr) (ht : wr.heap[T]? = some (.cells #[t0, t1, t2, t3] 132)) :
    Calls Tryz.prog 96 #[.int .i64 k, .int .u64 x, .pointer (some ⟨T, 0, none⟩)] wr fun e w' => e = .returned (.bool true) ∧ ∃ w1, Below wr.heap.size wr w1 ∧ w' = w1.setCell ⟨T, k, none⟩ (.string (dec x)) := by
  have hlt : T < wr.heap.size := World.block_lt_of_cell? wr ⟨T, 0, none⟩ (cell_at ht rfl)
  have HS := Lib.hid (format_any x hx wr hT)
  have HT := Lib.hid ht
  obtain ⟨s, hs⟩ : ∃ s, s = dec x := ⟨_, rfl⟩
  rw [← hs] at HS ⊢
  clear hs ht hT hx
  have hk' : (k : Int) < 4 := by omega
  have hk0 : (0 : Int) ≤ (k : Int) := by omega
  go_enter Tryz.func96, Tryz.ntmps96
  go_wp2_with fail
  refine HS.out.mono ?_
  rintro e w1 ⟨rfl, hb⟩
  have ht := (hb.block T hlt).trans HT.out
  have c : ∃ u, w1.cell? ⟨T, k, none⟩ = some u := by
    rcases lt4 hk with rfl | rfl | rfl | rfl
    · exact ⟨_, cell_at ht rfl⟩
    · exact ⟨_, cell_at ht rfl⟩
    · exact ⟨_, cell_at ht rfl⟩
    · exact ⟨_, cell_at ht rfl⟩
  obtain ⟨u, hu⟩ := c
  have fz : w1.frozen? ⟨T, k, none⟩ = false := frozen_at ht
  clear ht
  go_wp2
  go_ret
  exact ⟨rfl, w1, hb, rfl⟩

theorem text_stepT {w0 : World} {v : V4} (hv : fair4 v) (hT : Tab w0) (k : Nat) (hk : k < 4) (wr : World) (h : TextLaid w0 w0.heap.size (fun k => dec (am v k)) k wr) :
    Calls Tryz.prog 96 (#[.int .i64 k, .int .u64 (am v k)] ++ #[.pointer (some ⟨w0.heap.size + 1, 0, none⟩)]) wr (Step (TextLaid w0 w0.heap.size (fun k => dec (am v k)) (k + 1)) (fun _ => False)) := by
  obtain ⟨hb, ht⟩ := h
  have hlt : w0.heap.size + 1 < wr.heap.size := World.block_lt_of_cell? wr ⟨w0.heap.size + 1, 0, none⟩ (cell_at ht rfl)
  refine (text1T (w0.heap.size + 1) k hk (am v k) (hv k hk) _ _ _ _ wr (hT.below hb) ht).mono ?_
  rintro e w' ⟨rfl, w1, hb1, rfl⟩
  have ht1 := (hb1.block (w0.heap.size + 1) hlt).trans ht
  refine .inl ⟨rfl, (hb.trans (hb1.mono (by omega))).setCell (by simp) _, ?_⟩
  rw [heap_setCell_same w1 (w0.heap.size + 1) k _ _ (.string (dec (am v k))) ht1]
  rcases lt4 hk with rfl | rfl | rfl | rfl <;> rfl

theorem join_length (d : Nat → ByteArray) (h : ∀ k, k < 4 → (d k).size ≤ 20) : (Lib.join ([d 0, d 1, d 2, d 3].map (·.data.toList)) [58]).length ≤ 140737488355328 := by
  have h0 := h 0 (by omega)
  have h1 := h 1 (by omega)
  have h2 := h 2 (by omega)
  have h3 := h 3 (by omega)
  rw [← size_list] at h0 h1 h2 h3
  simp [Lib.join, List.intercalate]
  simp at h0 h1 h2 h3
  omega
theorem joins4 : Joins4 := by
  intro d B c w h hB hc
  exact Any.strings_Join LaidJ.lays156 LaidJ.Builder_Extra_156 B 0 c [d 0, d 1, d 2, d 3] ⟨#[58]⟩ w (fun j x hj => by
    have hj4 : j < 4 := by
      have := (List.getElem?_eq_some_iff.1 hj).1
      simpa using this
    rw [Nat.zero_add]
    rcases lt4 hj4 with rfl | rfl | rfl | rfl <;> (simp at hj; subst hj; exact (h _ hj4).1)) hB (by simp) (by simpa using hc) (join_length d fun k hk => (h k hk).2)

set_option maxRecDepth 100000 in
set_option maxHeartbeats 1000000 in
theorem text_vec (v : V4) (hv : fair4 v) (w : World) (hT : Tab w) :
    Calls Tryz.prog 57 #[vecV v] w fun e w' => e = .returned (.string (textV v)) ∧ Below w.heap.size w w' := by
  have hcl : ∀ (args : Array Value) (w : World), (callFunc 96 args).run Tryz.prog w = .ok (.enter 96 args) w := fun _ _ => by kernel_rfl
  have hat : TextLaid w w.heap.size (fun k => dec (am v k)) 0 (((w.alloc (box (am v 0) (am v 1) (am v 2) (am v 3))).alloc (.cells #[.string ⟨#[]⟩, .string ⟨#[]⟩, .string ⟨#[]⟩, .string ⟨#[]⟩] 132)).alloc (box (am v 0) (am v 1) (am v 2) (am v 3))) := by
    refine ⟨((((Below.refl _ _).alloc (Nat.le_refl _) _).alloc (by simp) _).alloc (by simp; omega) _), ?_⟩
    rw [heap_alloc_old _ _ (by simp)]
    exact heap_alloc2_new _ _ _
  have HE := Lib.hid (each_any (am v 0) (am v 1) (am v 2) (am v 3) 96 #[.pointer (some ⟨w.heap.size + 1, 0, none⟩)] (TextLaid w w.heap.size (fun k => dec (am v k))) (fun _ => False) _ hcl hat
    (text_stepT hv hT 0 (by omega)) (text_stepT hv hT 1 (by omega)) (text_stepT hv hT 2 (by omega)) (text_stepT hv hT 3 (by omega)))
  have HJ := fun W h1 => Lib.hid (joins4 (fun k => dec (am v k)) (w.heap.size + 1) 4 W h1)
  have HS : Hid (∀ k, k < 4 → (dec (am v k)).size ≤ 20) := Lib.hid fun k hk => (dec_size (hv k hk)).2
  have hr' : (joined fun k => dec (am v k)) = textV v := rfl
  rw [hr'] at HJ
  obtain ⟨d, hd⟩ : ∃ d : Nat → ByteArray, d = fun k => dec (am v k) := ⟨_, rfl⟩
  have hd' : ∀ k, d k = dec (am v k) := fun k => by rw [hd]
  obtain ⟨r, hr⟩ : ∃ r, r = textV v := ⟨_, rfl⟩
  rw [← hr] at HJ ⊢
  rw [← hd] at HE
  simp only [← hd'] at HJ HS
  clear hcl hat hr hr' hd hd' hT hv
  unfold vecV vec
  unfold vec box at HE
  go_enter Tryz.func57, Tryz.ntmps57
  go_wp2_with fail
  refine HE.out.mono ?_
  clear HE
  rintro e w1 (⟨rfl, hb, hc⟩ | ⟨rfl, hf⟩)
  · have hlt : w.heap.size + 1 < w1.heap.size := World.block_lt_of_cell? w1 ⟨w.heap.size + 1, 0, none⟩ (cell_at hc rfl)
    have HC := Lib.hid (HJ w1 (fun k hk => ⟨by
      rcases lt4 hk with rfl | rfl | rfl | rfl <;> exact cell_at hc rfl, HS.out k hk⟩))
    clear hc HJ HS
    go_wp2_with fail
    refine (HC.out.out hlt (by omega)).mono ?_
    rintro e w2 ⟨rfl, hb2⟩
    go_wp2
    go_ret
    exact ⟨rfl, hb.trans (hb2.mono (by omega))⟩
  · exact hf.elim

/-! ### Parse -/

/-- The number that ParseUint tells, if it is one or not. -/
def valU (s : ByteArray) : Nat := match Lib.parseUintB 64 s.data.toList with
  | .ok u => u
  | .range => 18446744073709551615
  | _ => 0
theorem valU_of {s : ByteArray} {u : Nat} (h : readU s = some u) : valU s = u := by
  unfold readU at h
  unfold valU
  cases hc : Lib.parseUintB 64 s.data.toList <;> rw [hc] at h <;> simp_all
theorem valU_lt (s : ByteArray) : valU s < 18446744073709551616 := by
  unfold valU
  cases hc : Lib.parseUintB 64 s.data.toList with
  | ok u => have := Lib.parseUintB_le hc; simp only; omega
  | _ => simp
/-- What ParseUint answers, by value. -/
def ToldU (s : ByteArray) (w : World) (e : Ending) (w' : World) : Prop := (∃ ev, e = .returned (.tuple #[.int .u64 (valU s), ev]) ∧ ((ev = .nilIface ∧ (readU s).isSome = true) ∨ (∃ T p, ev = .iface T p) ∧ (readU s).isSome = false)) ∧ Below w.heap.size w w'
theorem parse_told (s : ByteArray) (hs : s.size ≤ 281474976710656) (w : World) (hR : Roots w) :
    Calls Tryz.prog 118 #[.string s, .int .i64 10, .int .i64 64] w (ToldU s w) := by
  obtain ⟨T1, p1, h1⟩ := hR.syn
  obtain ⟨T2, p2, h2⟩ := hR.ran
  cases h : Lib.parseUintB 64 s.data.toList with
  | ok u =>
    have hr : readU s = some u := by unfold readU; rw [h]
    have hv := valU_of hr
    refine (Any.strconv_ParseUint_10_at64_ok LaidJ.laysPu14 s (by omega) u h w).mono ?_
    rintro e w' ⟨rfl, h | h⟩
    · exact ⟨⟨_, by rw [hv], .inl ⟨rfl, by rw [hr]; rfl⟩⟩, by rw [h]; exact Below.refl _ _⟩
    · exact ⟨⟨_, by rw [hv], .inl ⟨rfl, by rw [hr]; rfl⟩⟩, by rw [h]; exact Lib.bytesWorld_below _ _ _⟩
  | range =>
    have hr : readU s = none := by unfold readU; rw [h]
    have hv : valU s = 18446744073709551615 := by unfold valU; rw [h]
    refine (Any.strconv_ParseUint_10_at64_range LaidJ.laysPu14 s hs h _ w h2 (.inr ⟨_, _, rfl⟩)).mono ?_
    rintro e w' ⟨N, rfl, _, _, hb⟩
    exact ⟨⟨_, by rw [hv]; rfl, .inr ⟨⟨_, _, rfl⟩, by rw [hr]; rfl⟩⟩, hb⟩
  | _ =>
    have hr : readU s = none := by unfold readU; rw [h]
    have hv : valU s = 0 := by unfold valU; rw [h]
    refine (Any.strconv_ParseUint_10_at64_syntax LaidJ.laysPu14 s hs h _ w h1 (.inr ⟨_, _, rfl⟩)).mono ?_
    rintro e w' ⟨N, rfl, _, _, hb⟩
    exact ⟨⟨_, by rw [hv]; rfl, .inr ⟨⟨_, _, rfl⟩, by rw [hr]; rfl⟩⟩, hb⟩

set_option maxRecDepth 100000 in
set_option maxHeartbeats 1000000 in
theorem parse1T (A B k : Nat) (hk : k < 4) (x : Int) (s : ByteArray) (hs : s.size ≤ 281474976710656) (c : Nat) (wr : World) (hA : wr.heap[A]? = some (.cells #[.slice (some ⟨B, 0, none⟩) 4 c] 28)) (hB : wr.cell? ⟨B, k, none⟩ = some (.string s)) (hR : Roots wr) :
    Calls Tryz.prog 117 #[.int .i64 k, .int .u64 x, .pointer (some ⟨A, 0, none⟩)] wr fun e w' => e = .returned (.tuple #[.int .u64 (valU s), .bool (readU s).isSome]) ∧ Below wr.heap.size wr w' := by
  have cA := cell_at (i := 0) hA rfl
  have HS := Lib.hid (parse_told s hs wr hR)
  clear hA hR
  obtain ⟨u, hu⟩ : ∃ u : Nat, u = valU s := ⟨_, rfl⟩
  obtain ⟨b, hb⟩ : ∃ b, b = (readU s).isSome := ⟨_, rfl⟩
  unfold ToldU at HS
  rw [← hu, ← hb] at HS ⊢
  clear hu hb hs
  have hk' : (k : Int) < 4 := by omega
  have hk0 : (0 : Int) ≤ (k : Int) := by omega
  go_enter Tryz.func117, Tryz.ntmps117
  go_wp2_with fail
  refine HS.out.mono ?_
  rintro e w1 ⟨⟨ev, rfl, ⟨rfl, rfl⟩ | ⟨⟨T, p, rfl⟩, rfl⟩⟩, hb⟩
  · go_wp2
    go_quiet (fail)
    go_wp2
    go_ret2
    exact ⟨rfl, below_drewN hb _⟩
  · go_wp2
    go_quiet (fail)
    go_wp2
    go_ret2
    exact ⟨rfl, below_drewN hb _⟩

/-- What Parse has laid. -/
def LaidP (w0 : World) (c : Nat) (d : Nat → ByteArray) (w : World) : Prop := ParseLaid w0 w0.heap.size c d w
theorem parse_fairT {w0 : World} {c : Nat} {d : Nat → ByteArray} (hR : Roots w0) (hd : ∀ k, k < 4 → (d k).size ≤ 281474976710656) :
    Vec.Fair (w0.heap.size + 3) 117 #[.pointer (some ⟨w0.heap.size + 2, 0, none⟩)] (fun _ => 0) (fun k => (valU (d k) : Int)) (fun k => (readU (d k)).isSome) (fun _ => ParseLaid w0 w0.heap.size c d) (ParseLaid w0 w0.heap.size c d) := by
  intro k hk wr hs hp
  refine (parse1T (w0.heap.size + 2) (w0.heap.size + 1) k hk 0 (d k) (hd k hk) c wr hp.2.2.2.1 (hp.2.2.2.2 k hk) (hR.below hp.1)).mono ?_
  rintro e w' ⟨rfl, hb⟩
  exact ⟨rfl, Keeps.of_below hb, goes_same _ (hp.later (hb.mono hp.2.1))⟩

def TellsV (s : ByteArray) (w : World) (e : Ending) (w' : World) : Prop :=
  ((∃ v, fair4 v ∧ textV v = s ∧ e = .returned (.tuple #[vecV v, .bool true])) ∨ ((∀ v, fair4 v → textV v ≠ s) ∧ e = .returned (.tuple #[vec 0 0 0 0, .bool false]))) ∧ Below w.heap.size w w'

theorem pieces_of {v : V4} (hv : fair4 v) {s : ByteArray} (h : textV v = s) {N : Nat} (hN : N = min 5 (s.size + 1)) {d : Nat → ByteArray} (hcut : (cutK (N - 1) s.data.toList).map str = [d 0, d 1, d 2, d 3]) : ∀ k, k < 4 → d k = dec (am v k) := by
  subst h
  rw [cutK_text hv hN] at hcut
  simp only [List.map_cons, List.map_nil, List.cons.injEq, and_true] at hcut
  intro k hk
  rcases lt4 hk with rfl | rfl | rfl | rfl
  · exact hcut.1.symm
  · exact hcut.2.1.symm
  · exact hcut.2.2.1.symm
  · exact hcut.2.2.2.symm
def of4 (a b c d : ByteArray) : Nat → ByteArray
  | 0 => a
  | 1 => b
  | 2 => c
  | _ => d
theorem four_of {l : List ByteArray} (h : l.length = 4) : ∃ d : Nat → ByteArray, l = [d 0, d 1, d 2, d 3] := by
  match l, h with
  | [a, b, c, d], _ => exact ⟨of4 a b c d, rfl⟩
theorem cutK_small : ∀ (k : Nat) (l : List UInt8), ∀ x ∈ cutK k l, x.length ≤ l.length
  | 0, l, x, h => by simp [cutK] at h; subst h; exact Nat.le_refl _
  | k + 1, l, x, h => by
    rcases index_cases l with ⟨h1, h2⟩ | ⟨i, h1, h2, h3, h4⟩
    · rw [cutK_miss _ h1] at h; simp at h; subst h; exact Nat.le_refl _
    · rw [cutK_hit k i h1] at h
      rcases List.mem_cons.1 h with rfl | h
      · simp; omega
      · have := cutK_small k _ x h
        rw [List.length_drop] at this
        omega

set_option maxRecDepth 100000 in
set_option maxHeartbeats 4000000 in
theorem parse_vec (text : ByteArray) (hs : text.size ≤ 281474976710656) (w : World) (hR : Roots w) :
    Calls Tryz.prog 80 #[.string text] w (TellsV text w) := by
  obtain ⟨N, hN⟩ : ∃ N, N = min 5 (text.size + 1) := ⟨_, rfl⟩
  have hcl : ∀ (args : Array Value) (w : World), (callFunc 117 args).run Tryz.prog w = .ok (.enter 117 args) w := fun _ _ => by kernel_rfl
  obtain ⟨n, hlen⟩ : ∃ n, (cutK (N - 1) text.data.toList).length = n := ⟨_, rfl⟩
  obtain ⟨row, hrow⟩ : ∃ row, row = Obj.cells (Lib.cellsOf ((cutK (N - 1) text.data.toList).map str) N) 9 := ⟨_, rfl⟩
  have HSp : Hid (∀ W, Calls Tryz.prog 88 #[.string text, .string ⟨#[58]⟩, .int .i64 5] W fun e w' => e = .returned (.slice (some ⟨W.heap.size, 0, none⟩) n N) ∧ w' = W.alloc row) := Lib.hid (fun W => by
    have := splitN_any text (by omega) N hN W
    rw [hlen, ← hrow] at this
    exact this)
  have hn5 : n ≤ N := by have := (cutK_length (N - 1) text.data.toList).1; omega
  have hNN : N ≤ 5 := by omega
  by_cases h4 : n = 4
  · subst h4
    obtain ⟨d, hd⟩ := four_of (l := (cutK (N - 1) text.data.toList).map str) (by rw [List.length_map]; exact hlen)
    have hcut := hd
    rw [hd] at hrow
    have hsm : ∀ k, k < 4 → (d k).size ≤ 281474976710656 := fun k hk => by
      have hm : d k ∈ (cutK (N - 1) text.data.toList).map str := by
        rw [hd]
        rcases lt4 hk with rfl | rfl | rfl | rfl <;> simp
      obtain ⟨x, hx, hxd⟩ := List.mem_map.1 hm
      have := cutK_small _ _ x hx
      rw [← hxd, ← size_list]
      rw [size_list] at this
      show x.length ≤ _
      omega
    have HT : ∀ W, W = ((w.alloc (box 0 0 0 0)).alloc row).alloc (.cells #[.slice (some ⟨w.heap.size + 1, 0, none⟩) 4 N] 28) →
        Hid (Calls Tryz.prog 69 #[vec 0 0 0 0, .func (.func 117) #[] #[.pointer (some ⟨w.heap.size + 1 + 1, 0, none⟩)]] W
          (Turned (fun k => (valU (d k) : Int)) (fun k => (readU (d k)).isSome) (fun _ => ParseLaid w w.heap.size N d) (ParseLaid w w.heap.size N d))) := by
      rintro W rfl
      refine Lib.hid (turn_any (x := fun _ => 0) hcl _ (fun _ a b hab h => h.later (by simpa using hab)) (fun a b hab h => h.later (by simpa using hab)) (by have := parse_fairT (w0 := w) (c := N) hR hsm; simpa using this) ?_)
      refine ⟨((((Below.refl _ _).alloc (Nat.le_refl _) _).alloc (by simp) _).alloc (by simp; omega) _), by simp, ?_, ?_, ?_⟩
      · rw [heap_alloc_old _ _ (by simp; omega), heap_alloc_old _ _ (by simp)]
        exact heap_alloc_new _ _
      · exact heap_alloc_new ((w.alloc (box 0 0 0 0)).alloc row) _ ▸ (by simp)
      · intro k hk
        have h1 : (((w.alloc (box 0 0 0 0)).alloc row).alloc (.cells #[.slice (some ⟨w.heap.size + 1, 0, none⟩) 4 N] 28)).heap[w.heap.size + 1]? = some (.cells (Lib.cellsOf [d 0, d 1, d 2, d 3] N) 9) := by
          rw [heap_alloc_old _ _ (by simp), ← hrow]
          exact heap_alloc2_new _ _ _
        refine cell_at h1 ?_
        rcases lt4 hk with rfl | rfl | rfl | rfl <;> simp [Lib.cellsOf]
    have HC := Lib.hid hcut
    have HN := Lib.hid hN
    have HR := Lib.hid hR
    have hN0 : (4 : Nat) ≤ N := hn5
    obtain ⟨u, hu⟩ : ∃ u : V4, u = (valU (d 0), valU (d 1), valU (d 2), valU (d 3)) := ⟨_, rfl⟩
    have hu4 : ∀ k, k < 4 → am u k = valU (d k) := fun k hk => by
      rw [hu]
      rcases lt4 hk with rfl | rfl | rfl | rfl <;> rfl
    have huf : fair4 u := fun k hk => by rw [hu4 k hk]; exact valU_lt _
    have e0 := hu4 0 (by omega)
    have e1 := hu4 1 (by omega)
    have e2 := hu4 2 (by omega)
    have e3 := hu4 3 (by omega)
    have HX := Lib.hid (fun W (h : Tab W) => text_vec u huf W h)
    have HU := Lib.hid (And.intro hu4 huf)
    have HD : Hid (∀ v, fair4 v → textV v = text → ∀ k, k < 4 → d k = dec (am v k)) := Lib.hid fun v hv h => pieces_of hv h hN hcut
    have HT' : ∀ W, W = ((w.alloc (box 0 0 0 0)).alloc row).alloc (.cells #[.slice (some ⟨w.heap.size + 1, 0, none⟩) 4 N] 28) →
        Hid (Calls Tryz.prog 69 #[vec 0 0 0 0, .func (.func 117) #[] #[.pointer (some ⟨w.heap.size + 1 + 1, 0, none⟩)]] W
          fun e w' => (((∀ i, i < 4 → (readU (d i)).isSome = true) ∧ e = .returned (.tuple #[vecV u, .bool true])) ∨ ((∃ i, i < 4 ∧ (readU (d i)).isSome = false) ∧ e = .returned (.tuple #[vec 0 0 0 0, .bool false]))) ∧ ParseLaid w w.heap.size N d w') := fun W hW => by
      refine Lib.hid ((HT W hW).out.mono ?_)
      rintro e w' (⟨h1, rfl, h3⟩ | ⟨h1, rfl, h3⟩)
      · refine ⟨.inl ⟨h1, ?_⟩, h3⟩
        unfold vecV
        rw [e0, e1, e2, e3]
      · exact ⟨.inr ⟨h1, rfl⟩, h3⟩
    obtain ⟨r, hr⟩ : ∃ r, r = textV u := ⟨_, rfl⟩
    have HRt := Lib.hid hr
    rw [← hr] at HX
    clear HT hcl hcut hd hlen hsm hrow hR hN hu hu4 huf e0 e1 e2 e3 hr hn5 hNN
    unfold vecV vec at HT' HX
    unfold box at HT'
    obtain ⟨a0, ha0⟩ : ∃ a : Int, a = am u 0 := ⟨_, rfl⟩
    obtain ⟨a1, ha1⟩ : ∃ a : Int, a = am u 1 := ⟨_, rfl⟩
    obtain ⟨a2, ha2⟩ : ∃ a : Int, a = am u 2 := ⟨_, rfl⟩
    obtain ⟨a3, ha3⟩ : ∃ a : Int, a = am u 3 := ⟨_, rfl⟩
    have HA := Lib.hid (And.intro ha0 (And.intro ha1 (And.intro ha2 ha3)))
    rw [← ha0, ← ha1, ← ha2, ← ha3] at HT' HX
    clear ha0 ha1 ha2 ha3
    go_enter Tryz.func80, Tryz.ntmps80
    go_wp2_with fail
    refine (HSp.out _).mono ?_
    rintro e w1 ⟨rfl, rfl⟩
    go_wp2_with fail
    refine ((HT' _ (by simp)).out).mono ?_
    clear HT' HSp
    rintro e w1 ⟨⟨hall, rfl⟩ | ⟨hbad, rfl⟩, hb, hsz, hA, _⟩
    · obtain ⟨c0, c1, c2, c3, f0, f1, f2, f3⟩ := cells4 hA
      have HB4 := Lib.hid (set4_box hA a0 a1 a2 a3)
      have HB := Lib.hid (set4_below (T := w.heap.size) (a := a0) (b := a1) (c := a2) (d := a3) hb (Nat.le_refl _))
      have HL := Lib.hid hall
      clear hA hb hall
      go_wp2_with fail
      refine (HX.out _ (HR.out.below HB.out).tab).mono ?_
      clear HX
      rintro e w2 ⟨rfl, hb2⟩
      have hA2 : w2.heap[w.heap.size]? = some (box a0 a1 a2 a3) := (hb2.block _ (by rw [set4_size]; omega)).trans HB4.out
      have hB2 : Below w.heap.size w w2 := HB.out.trans (hb2.mono (by rw [set4_size]; omega))
      clear hb2 HB4 HB c0 c1 c2 c3 f0 f1 f2 f3
      obtain ⟨c0, c1, c2, c3, f0, f1, f2, f3⟩ := cells4 hA2
      rcases Bool.eq_false_or_eq_true (r.toList == text.toList) with heq | heq
      · have HA4 := Lib.hid (set4_box hA2 a0 a1 a2 a3)
        have HB := Lib.hid (set4_below (T := w.heap.size) (a := a0) (b := a1) (c := a2) (d := a3) hB2 (Nat.le_refl _))
        clear hA2 hB2
        go_wp2
        obtain ⟨d0, d1, d2, d3, _⟩ := cells4 HA4.out
        unfold set4 at d0 d1 d2 d3
        refine bodyPost_ret (v := .tuple #[.agg #[.int .u64 a0, .int .u64 a1, .int .u64 a2, .int .u64 a3], .bool true]) (by simp [results, Tryz.results80, go_sem, d0, d1, d2, d3]) rfl ?_
        refine ⟨.inl ⟨u, HU.out.2, ?_, ?_⟩, HB.out⟩
        · have h := eq_of_beq heq
          rw [← HRt.out]
          exact list_eq_of_toList h
        · obtain ⟨h0, h1, h2, h3⟩ := HA.out
          rw [h0, h1, h2, h3]
          rfl
      · have HA4 := Lib.hid (set4_box hA2 0 0 0 0)
        have HB := Lib.hid (set4_below (T := w.heap.size) (a := 0) (b := 0) (c := 0) (d := 0) hB2 (Nat.le_refl _))
        clear hA2 hB2
        go_wp2
        obtain ⟨d0, d1, d2, d3, _⟩ := cells4 HA4.out
        unfold set4 at d0 d1 d2 d3
        refine bodyPost_ret (v := .tuple #[.agg #[.int .u64 0, .int .u64 0, .int .u64 0, .int .u64 0], .bool false]) (by simp [results, Tryz.results80, go_sem, d0, d1, d2, d3]) rfl ?_
        refine ⟨.inr ⟨fun v hv h => ?_, rfl⟩, HB.out⟩
        have hdv := HD.out v hv h
        have huv : u = v := am_ext fun k hk => by
          rw [HU.out.1 k hk, hdv k hk, valU_of (read_dec _ (hv k hk))]
        rw [huv, h] at HRt
        rw [HRt.out] at heq
        simp at heq
    · obtain ⟨c0, c1, c2, c3, f0, f1, f2, f3⟩ := cells4 hA
      have HL := Lib.hid hbad
      have HA4 := Lib.hid (set4_box (set4_box hA 0 0 0 0) 0 0 0 0)
      have HB := Lib.hid (set4_below (T := w.heap.size) (a := 0) (b := 0) (c := 0) (d := 0) (set4_below (T := w.heap.size) (a := 0) (b := 0) (c := 0) (d := 0) hb (Nat.le_refl _)) (Nat.le_refl _))
      clear hA hb hbad
      go_wp2
      obtain ⟨d0, d1, d2, d3, _⟩ := cells4 HA4.out
      have hB := HB.out
      unfold set4 at d0 d1 d2 d3 hB
      refine bodyPost_ret (v := .tuple #[.agg #[.int .u64 0, .int .u64 0, .int .u64 0, .int .u64 0], .bool false]) (by simp [results, Tryz.results80, go_sem, d0, d1, d2, d3]) rfl ?_
      refine ⟨.inr ⟨fun v hv h => ?_, rfl⟩, hB⟩
      have hdv := HD.out v hv h
      obtain ⟨i, hi, hf⟩ := HL.out
      rw [hdv i hi, read_dec _ (hv i hi)] at hf
      cases hf
  · have hne : ((n : Int) != 4) = true := by simp; omega
    have hne' : ¬ (n : Int) = 4 := by omega
    have HD : Hid (∀ v, fair4 v → textV v ≠ text) := Lib.hid fun v hv h => by
      subst h
      rw [cutK_text hv hN] at hlen
      exact h4 hlen.symm
    clear hcl hrow hR hlen hN
    go_enter Tryz.func80, Tryz.ntmps80
    go_wp2_with fail
    refine (HSp.out _).mono ?_
    rintro e w1 ⟨rfl, rfl⟩
    go_wp2
    have hA : (((w.alloc (box 0 0 0 0)).alloc row).alloc (.cells #[.slice (some ⟨w.heap.size + 1, 0, none⟩) n N] 28)).heap[w.heap.size]? = some (box 0 0 0 0) := by
      rw [heap_alloc_old _ _ (by simp; omega), heap_alloc_old _ _ (by simp)]
      exact heap_alloc_new _ _
    obtain ⟨d0, d1, d2, d3, _⟩ := cells4 hA
    unfold box at d0 d1 d2 d3
    refine bodyPost_ret (v := .tuple #[.agg #[.int .u64 0, .int .u64 0, .int .u64 0, .int .u64 0], .bool false]) (by simp [results, Tryz.results80, go_sem, d0, d1, d2, d3]) rfl ?_
    exact ⟨.inr ⟨HD.out, rfl⟩, (((Below.refl _ _).alloc (Nat.le_refl _) _).alloc (by simp) _).alloc (by simp; omega) _⟩
end Go.Proofs.YtbilkeadhflibaaGreatDoor.Job

/- Jobs by their fields, and what chapter 11 says of them (P11.1 to P11.3): plain functions, no program. -/
namespace Go.Proofs.YtbilkeadhflibaaGreatDoor.Job
open Go.RowKit Go.Proofs.YtbilkeadhflibaaGreatDoor.Wire Go.Proofs.YtbilkeadhflibaaGreatDoor.Vec Go.Proofs.YtbilkeadhflibaaGreatDoor.Sel

/-- A job: its path, its amounts, its three numbers, its terms. -/
abbrev Jb := ByteArray × V4 × (Int × Int × Int) × List Tm
def path (x : Jb) : ByteArray := x.1
def dem (x : Jb) : V4 := x.2.1
def cou (x : Jb) : Int := x.2.2.1.1
def pri (x : Jb) : Int := x.2.2.1.2.1
def tik (x : Jb) : Int := x.2.2.1.2.2
def terms (x : Jb) : List Tm := x.2.2.2
theorem jb_ext {x y : Jb} (h1 : path x = path y) (h2 : dem x = dem y) (h3 : cou x = cou y) (h4 : pri x = pri y) (h5 : tik x = tik y) (h6 : terms x = terms y) : x = y := by
  obtain ⟨a, b, ⟨c, d, e⟩, f⟩ := x
  obtain ⟨a', b', ⟨c', d', e'⟩, f'⟩ := y
  simp only [path, dem, cou, pri, tik, terms] at h1 h2 h3 h4 h5 h6
  rw [h1, h2, h3, h4, h5, h6]
/-- A job as a value: the slice of its terms is v. -/
def valJ (x : Jb) (v : Value) : Value := .agg #[.string (path x), .int .u64 (am (dem x) 0), .int .u64 (am (dem x) 1), .int .u64 (am (dem x) 2), .int .u64 (am (dem x) 3), .int .i64 (cou x), .int .i64 (pri x), .int .i64 (tik x), v]
def nilJ : Jb := (⟨#[]⟩, (0, 0, 0, 0), (0, 0, 0), [])
def nilV : Value := .slice none 0 0
/-- What is in reach. -/
structure FairJ (x : Jb) : Prop where
  path : (path x).size ≤ 140737488355328
  dem : fair4 (dem x)
  terms : Sel.Fair (terms x)

/-- Times. -/
def timesV (x : V4) (n : Nat) : Option V4 :=
  if am x 0 * n < 18446744073709551616 ∧ am x 1 * n < 18446744073709551616 ∧ am x 2 * n < 18446744073709551616 ∧ am x 3 * n < 18446744073709551616 then some (am x 0 * n, am x 1 * n, am x 2 * n, am x 3 * n) else none
theorem timesV_some {x : V4} {n : Nat} (h : ∀ k, k < 4 → am x k * n < 18446744073709551616) : timesV x n = some (am x 0 * n, am x 1 * n, am x 2 * n, am x 3 * n) := if_pos ⟨h 0 (by omega), h 1 (by omega), h 2 (by omega), h 3 (by omega)⟩
theorem timesV_none {x : V4} {n k : Nat} (hk : k < 4) (h : ¬ am x k * n < 18446744073709551616) : timesV x n = none := if_neg fun hc => by
  obtain ⟨h0, h1, h2, h3⟩ := hc
  rcases lt4 hk with rfl | rfl | rfl | rfl
  · exact h h0
  · exact h h1
  · exact h h2
  · exact h h3
/-- Total. -/
def manyJ (x : Jb) : Nat := (IntKind.u64.wrap (cou x)).toNat
def totalJ (x : Jb) : Option V4 := timesV (dem x) (manyJ x)
theorem manyJ_eq (x : Jb) : ((manyJ x : Nat) : Int) = IntKind.u64.wrap (cou x) := by
  unfold manyJ
  rw [IntKind.wrap_u64]
  omega
theorem manyJ_lt (x : Jb) : manyJ x < 18446744073709551616 := by
  have := manyJ_eq x
  rw [IntKind.wrap_u64] at this
  omega
theorem manyJ_small {x : Jb} (h : 0 ≤ cou x ∧ cou x ≤ 100) : manyJ x = (cou x).toNat := by
  have := manyJ_eq x
  rw [IntKind.wrap_u64] at this
  omega

/-- Are the numbers within their limits? -/
def inB (n m k : Int) : Bool := decide (1 ≤ n ∧ n ≤ 8 ∧ 0 ≤ m ∧ m ≤ 9 ∧ 1 ≤ k ∧ k ≤ 100)
/-- Check: P11.1. -/
def checkJ (x : Jb) : Int :=
  if Word.parts (path x).data.toList = [] then 6
  else if inB (cou x) (pri x) (tik x) = false then 1
  else if rightS (terms x) = false then 2
  else if (totalJ x).isSome = false then 5
  else 0
theorem checkJ_ok {x : Jb} : checkJ x = 0 ↔ Word.parts (path x).data.toList ≠ [] ∧ inB (cou x) (pri x) (tik x) = true ∧ rightS (terms x) = true ∧ (totalJ x).isSome = true := by
  unfold checkJ
  constructor
  · intro h
    split at h
    · omega
    rename_i h1
    split at h
    · omega
    rename_i h2
    split at h
    · omega
    rename_i h3
    split at h
    · omega
    rename_i h4
    exact ⟨h1, by simpa using h2, by simpa using h3, by cases hc : (totalJ x).isSome <;> simp_all⟩
  · rintro ⟨h1, h2, h3, h4⟩
    rw [if_neg h1, if_neg (by rw [h2]; decide), if_neg (by rw [h3]; decide), if_neg (by rw [h4]; decide)]
theorem checkJ_nil : checkJ nilJ = 6 := by
  unfold checkJ
  rw [if_pos (by decide)]
theorem inB_of {n m k : Int} (h : inB n m k = true) : 1 ≤ n ∧ n ≤ 8 ∧ 0 ≤ m ∧ m ≤ 9 ∧ 1 ≤ k ∧ k ≤ 100 := of_decide_eq_true h
end Go.Proofs.YtbilkeadhflibaaGreatDoor.Job

/- A job in memory: nine cells of one block, stored and loaded whole and in parts. -/
namespace Go.Proofs.YtbilkeadhflibaaGreatDoor.Job
open Go.RowKit Go.Proofs.YtbilkeadhflibaaGreatDoor.Wire Go.Proofs.YtbilkeadhflibaaGreatDoor.Vec

def box9 (p : ByteArray) (a0 a1 a2 a3 n m k : Int) (s : Value) : Obj := .cells #[.string p, .int .u64 a0, .int .u64 a1, .int .u64 a2, .int .u64 a3, .int .i64 n, .int .i64 m, .int .i64 k, s] 27
def val9 (p : ByteArray) (a0 a1 a2 a3 n m k : Int) (s : Value) : Value := .agg #[.string p, .int .u64 a0, .int .u64 a1, .int .u64 a2, .int .u64 a3, .int .i64 n, .int .i64 m, .int .i64 k, s]
theorem valJ_eq (x : Jb) (v : Value) : valJ x v = val9 (path x) (am (dem x) 0) (am (dem x) 1) (am (dem x) 2) (am (dem x) 3) (cou x) (pri x) (tik x) v := rfl
theorem cells9 {w : World} {T : Nat} {p : ByteArray} {a0 a1 a2 a3 n m k : Int} {s : Value} (h : w.heap[T]? = some (box9 p a0 a1 a2 a3 n m k s)) :
    (w.cell? ⟨T, 0, none⟩ = some (.string p) ∧ w.cell? ⟨T, 1, none⟩ = some (.int .u64 a0) ∧ w.cell? ⟨T, 2, none⟩ = some (.int .u64 a1) ∧ w.cell? ⟨T, 3, none⟩ = some (.int .u64 a2) ∧ w.cell? ⟨T, 4, none⟩ = some (.int .u64 a3) ∧
      w.cell? ⟨T, 5, none⟩ = some (.int .i64 n) ∧ w.cell? ⟨T, 6, none⟩ = some (.int .i64 m) ∧ w.cell? ⟨T, 7, none⟩ = some (.int .i64 k) ∧ w.cell? ⟨T, 8, none⟩ = some s) ∧
    (w.frozen? ⟨T, 0, none⟩ = false ∧ w.frozen? ⟨T, 1, none⟩ = false ∧ w.frozen? ⟨T, 2, none⟩ = false ∧ w.frozen? ⟨T, 3, none⟩ = false ∧ w.frozen? ⟨T, 4, none⟩ = false ∧ w.frozen? ⟨T, 5, none⟩ = false ∧ w.frozen? ⟨T, 6, none⟩ = false ∧ w.frozen? ⟨T, 7, none⟩ = false ∧ w.frozen? ⟨T, 8, none⟩ = false) :=
  ⟨⟨cell_at h rfl, cell_at h rfl, cell_at h rfl, cell_at h rfl, cell_at h rfl, cell_at h rfl, cell_at h rfl, cell_at h rfl, cell_at h rfl⟩,
    ⟨frozen_at h, frozen_at h, frozen_at h, frozen_at h, frozen_at h, frozen_at h, frozen_at h, frozen_at h, frozen_at h⟩⟩

/-- All nine stored. -/
def set9 (T : Nat) (p : ByteArray) (a0 a1 a2 a3 n m k : Int) (s : Value) (w : World) : World :=
  ((((((((w.setCell ⟨T, 0, none⟩ (.string p)).setCell ⟨T, 1, none⟩ (.int .u64 a0)).setCell ⟨T, 2, none⟩ (.int .u64 a1)).setCell ⟨T, 3, none⟩ (.int .u64 a2)).setCell ⟨T, 4, none⟩ (.int .u64 a3)).setCell ⟨T, 5, none⟩ (.int .i64 n)).setCell ⟨T, 6, none⟩ (.int .i64 m)).setCell ⟨T, 7, none⟩ (.int .i64 k)).setCell ⟨T, 8, none⟩ s
theorem set9_box {w : World} {T : Nat} {p : ByteArray} {a0 a1 a2 a3 n m k : Int} {s : Value} (h : w.heap[T]? = some (box9 p a0 a1 a2 a3 n m k s)) (p' : ByteArray) (b0 b1 b2 b3 n' m' k' : Int) (s' : Value) :
    (set9 T p' b0 b1 b2 b3 n' m' k' s' w).heap[T]? = some (box9 p' b0 b1 b2 b3 n' m' k' s') := by
  unfold box9 at h
  unfold set9
  have h0 := heap_setCell_same w T 0 _ _ (.string p') h
  have h1 := heap_setCell_same _ T 1 _ _ (.int .u64 b0) h0
  have h2 := heap_setCell_same _ T 2 _ _ (.int .u64 b1) h1
  have h3 := heap_setCell_same _ T 3 _ _ (.int .u64 b2) h2
  have h4 := heap_setCell_same _ T 4 _ _ (.int .u64 b3) h3
  have h5 := heap_setCell_same _ T 5 _ _ (.int .i64 n') h4
  have h6 := heap_setCell_same _ T 6 _ _ (.int .i64 m') h5
  have h7 := heap_setCell_same _ T 7 _ _ (.int .i64 k') h6
  have h8 := heap_setCell_same _ T 8 _ _ s' h7
  rw [h8]
  unfold box9
  simp only [List.setIfInBounds_toArray, List.set_cons_succ, List.set_cons_zero]
theorem set9_other {w : World} {T b : Nat} (hb : b ≠ T) (p : ByteArray) (a0 a1 a2 a3 n m k : Int) (s : Value) : (set9 T p a0 a1 a2 a3 n m k s w).heap[b]? = w.heap[b]? := by
  unfold set9
  rw [heap_setCell_other _ _ _ _ hb, heap_setCell_other _ _ _ _ hb, heap_setCell_other _ _ _ _ hb, heap_setCell_other _ _ _ _ hb, heap_setCell_other _ _ _ _ hb, heap_setCell_other _ _ _ _ hb, heap_setCell_other _ _ _ _ hb, heap_setCell_other _ _ _ _ hb, heap_setCell_other _ _ _ _ hb]
theorem set9_below {H T : Nat} {p : ByteArray} {a0 a1 a2 a3 n m k : Int} {s : Value} {w0 w : World} (h : Below H w0 w) (hT : H ≤ T) : Below H w0 (set9 T p a0 a1 a2 a3 n m k s w) :=
  ((((((((h.setCell hT _).setCell hT _).setCell hT _).setCell hT _).setCell hT _).setCell hT _).setCell hT _).setCell hT _).setCell hT _
theorem set9_size (T : Nat) (p : ByteArray) (a0 a1 a2 a3 n m k : Int) (s : Value) (w : World) : (set9 T p a0 a1 a2 a3 n m k s w).heap.size = w.heap.size := by simp [set9]
/-- The amounts stored. -/
def setD (T : Nat) (a0 a1 a2 a3 : Int) (w : World) : World :=
  (((w.setCell ⟨T, 1, none⟩ (.int .u64 a0)).setCell ⟨T, 2, none⟩ (.int .u64 a1)).setCell ⟨T, 3, none⟩ (.int .u64 a2)).setCell ⟨T, 4, none⟩ (.int .u64 a3)
theorem setD_box {w : World} {T : Nat} {p : ByteArray} {a0 a1 a2 a3 n m k : Int} {s : Value} (h : w.heap[T]? = some (box9 p a0 a1 a2 a3 n m k s)) (b0 b1 b2 b3 : Int) :
    (setD T b0 b1 b2 b3 w).heap[T]? = some (box9 p b0 b1 b2 b3 n m k s) := by
  unfold box9 at h
  unfold setD
  have h1 := heap_setCell_same w T 1 _ _ (.int .u64 b0) h
  have h2 := heap_setCell_same _ T 2 _ _ (.int .u64 b1) h1
  have h3 := heap_setCell_same _ T 3 _ _ (.int .u64 b2) h2
  have h4 := heap_setCell_same _ T 4 _ _ (.int .u64 b3) h3
  rw [h4]
  rfl
theorem setD_other {w : World} {T b : Nat} (hb : b ≠ T) (a0 a1 a2 a3 : Int) : (setD T a0 a1 a2 a3 w).heap[b]? = w.heap[b]? := by
  unfold setD
  rw [heap_setCell_other _ _ _ _ hb, heap_setCell_other _ _ _ _ hb, heap_setCell_other _ _ _ _ hb, heap_setCell_other _ _ _ _ hb]
theorem setD_below {H T : Nat} {a0 a1 a2 a3 : Int} {w0 w : World} (h : Below H w0 w) (hT : H ≤ T) : Below H w0 (setD T a0 a1 a2 a3 w) :=
  (((h.setCell hT _).setCell hT _).setCell hT _).setCell hT _
theorem setD_size (T : Nat) (a0 a1 a2 a3 : Int) (w : World) : (setD T a0 a1 a2 a3 w).heap.size = w.heap.size := by simp [setD]
theorem setP_box {w : World} {T : Nat} {p : ByteArray} {a0 a1 a2 a3 n m k : Int} {s : Value} (h : w.heap[T]? = some (box9 p a0 a1 a2 a3 n m k s)) (q : ByteArray) :
    (w.setCell ⟨T, 0, none⟩ (.string q)).heap[T]? = some (box9 q a0 a1 a2 a3 n m k s) := by
  unfold box9 at h
  rw [heap_setCell_same w T 0 _ _ (.string q) h]
  rfl
theorem setS_box {w : World} {T : Nat} {p : ByteArray} {a0 a1 a2 a3 n m k : Int} {s : Value} (h : w.heap[T]? = some (box9 p a0 a1 a2 a3 n m k s)) (v : Value) :
    (w.setCell ⟨T, 8, none⟩ v).heap[T]? = some (box9 p a0 a1 a2 a3 n m k v) := by
  unfold box9 at h
  rw [heap_setCell_same w T 8 _ _ v h]
  rfl
end Go.Proofs.YtbilkeadhflibaaGreatDoor.Job

/- vec's calls, each by two plain contracts, yes and no; and the tests of two amounts. -/
namespace Go.Proofs.YtbilkeadhflibaaGreatDoor.Vec
open Go.RowKit

theorem equal_vec' (a0 a1 a2 a3 b0 b1 b2 b3 : Int) (w : World) :
    (Op.equalIn 10000 24 (.agg #[.int .u64 a0, .int .u64 a1, .int .u64 a2, .int .u64 a3]) (.agg #[.int .u64 b0, .int .u64 b1, .int .u64 b2, .int .u64 b3])).run Tryz.prog w = .ok (same a0 a1 a2 a3 b0 b1 b2 b3) w := equal_vec 9998 a0 a1 a2 a3 b0 b1 b2 b3 w
theorem guard_vec : Tryz.prog.eqGuardType Tryz.prog.depth 24 = false := by kernel_rfl

/-- Are they the same? -/
def sameV (a b : Nat → Int) : Bool := same (a 0) (a 1) (a 2) (a 3) (b 0) (b 1) (b 2) (b 3)
theorem sameV_true {a b : Nat → Int} : sameV a b = true ↔ ∀ i, i < 4 → a i = b i := by
  unfold sameV
  rw [same_iff, four_all (p := fun i => a i = b i)]
theorem sameV_false {a b : Nat → Int} : sameV a b = false ↔ ¬ ∀ i, i < 4 → a i = b i := by rw [← sameV_true]; simp

/-- Nothing. -/
def zeroV : Nat → Int := fun _ => 0

theorem pure_add_yes {x y : Int} (hx : 0 ≤ x) (hy : 0 ≤ y) (h : x + y ≤ 18446744073709551615) : Pure2 68 x y (x + y) true := fun w => Num.add_yes x y hx hy h w
theorem pure_add_no {x y : Int} (hx : 0 ≤ x) (hy : 0 ≤ y) (hx' : x ≤ 18446744073709551615) (hy' : y ≤ 18446744073709551615) (h : 18446744073709551615 < x + y) : Pure2 68 x y 0 false := fun w => Num.add_no x y hx hy hx' hy' h w

/-- The sum, as wire tells it. -/
def addT (x y : Int) : Int := if x + y ≤ 18446744073709551615 then x + y else 0
def addB (x y : Int) : Bool := decide (x + y ≤ 18446744073709551615)
theorem pure_add {x y : Int} (hx : 0 ≤ x ∧ x ≤ 18446744073709551615) (hy : 0 ≤ y ∧ y ≤ 18446744073709551615) : Pure2 68 x y (addT x y) (addB x y) := by
  unfold addT addB
  by_cases h : x + y ≤ 18446744073709551615
  · rw [if_pos h, decide_eq_true h]; exact pure_add_yes hx.1 hy.1 h
  · rw [if_neg h, decide_eq_false h]; exact pure_add_no hx.1 hy.1 hx.2 hy.2 (by omega)
def subT (x y : Int) : Int := if y ≤ x then x - y else 0
def subB (x y : Int) : Bool := decide (y ≤ x)
def mulT (x y : Int) : Int := if x * y ≤ 18446744073709551615 then x * y else 0
def mulB (x y : Int) : Bool := decide (x * y ≤ 18446744073709551615)
theorem pure_mul {x y : Int} (hx : 0 ≤ x ∧ x ≤ 18446744073709551615) (hy : 0 ≤ y ∧ y ≤ 18446744073709551615) : Pure2 71 x y (mulT x y) (mulB x y) := by
  obtain ⟨a, rfl⟩ := Int.eq_ofNat_of_zero_le hx.1
  obtain ⟨b, rfl⟩ := Int.eq_ofNat_of_zero_le hy.1
  unfold mulT mulB
  have e : (a : Int) * (b : Int) = ((a * b : Nat) : Int) := by simp
  rw [e]
  by_cases h : ((a * b : Nat) : Int) ≤ 18446744073709551615
  · rw [if_pos h, decide_eq_true h]; exact fun w => Num.mul_yes a b (by omega) (by omega) (by omega) w
  · rw [if_neg h, decide_eq_false h]; exact fun w => Num.mul_no a b (by omega) (by omega) (by omega) w

theorem add_yes (a b c : Nat → Int) (ha : InRange a) (hb : InRange b) (hc : InRange c) (h : ∀ i, i < 4 → c i = a i + b i) (w : World) :
    Calls Tryz.prog 29 #[vec (a 0) (a 1) (a 2) (a 3), vec (b 0) (b 1) (b 2) (b 3)] w fun e w' => e = .returned (.tuple #[vec (c 0) (c 1) (c 2) (c 3), .bool true]) ∧ Below w.heap.size w w' := by
  refine (add_four a b c (fun _ => true) (fun k hk => by rw [h k hk]; exact pure_add_yes (ha k hk).1 (hb k hk).1 (by have := (hc k hk).2; rw [h k hk] at this; exact this)) w).mono ?_
  rintro e w' ⟨(⟨_, he⟩ | ⟨⟨i, _, hf⟩, _⟩), hb⟩
  · exact ⟨he, hb⟩
  · simp at hf
theorem add_no (a b : Nat → Int) (ha : InRange a) (hb : InRange b) (h : ¬ ∀ i, i < 4 → a i + b i ≤ 18446744073709551615) (w : World) :
    Calls Tryz.prog 29 #[vec (a 0) (a 1) (a 2) (a 3), vec (b 0) (b 1) (b 2) (b 3)] w fun e w' => e = .returned (.tuple #[vec 0 0 0 0, .bool false]) ∧ Below w.heap.size w w' := by
  refine (add_four a b (fun i => addT (a i) (b i)) (fun i => addB (a i) (b i)) (fun k hk => pure_add (ha k hk) (hb k hk)) w).mono ?_
  rintro e w' ⟨(⟨hall, he⟩ | ⟨_, he⟩), hb⟩
  · exact absurd (fun i hi => of_decide_eq_true (hall i hi)) h
  · exact ⟨he, hb⟩
theorem times_yes (a c : Nat → Int) (n : Int) (ha : InRange a) (hn : 0 ≤ n ∧ n ≤ 18446744073709551615) (hc : InRange c) (h : ∀ i, i < 4 → c i = a i * n) (w : World) :
    Calls Tryz.prog 31 #[vec (a 0) (a 1) (a 2) (a 3), .int .u64 n] w fun e w' => e = .returned (.tuple #[vec (c 0) (c 1) (c 2) (c 3), .bool true]) ∧ Below w.heap.size w w' := by
  refine (times_four a c n (fun _ => true) (fun k hk => by
    have := pure_mul (ha k hk) hn
    have hck := (hc k hk).2
    rw [h k hk] at hck ⊢
    unfold mulT mulB at this
    rw [if_pos hck, decide_eq_true hck] at this
    exact this) w).mono ?_
  rintro e w' ⟨(⟨_, he⟩ | ⟨⟨i, _, hf⟩, _⟩), hb⟩
  · exact ⟨he, hb⟩
  · simp at hf
theorem times_no (a : Nat → Int) (n : Int) (ha : InRange a) (hn : 0 ≤ n ∧ n ≤ 18446744073709551615) (h : ¬ ∀ i, i < 4 → a i * n ≤ 18446744073709551615) (w : World) :
    Calls Tryz.prog 31 #[vec (a 0) (a 1) (a 2) (a 3), .int .u64 n] w fun e w' => e = .returned (.tuple #[vec 0 0 0 0, .bool false]) ∧ Below w.heap.size w w' := by
  refine (times_four a (fun i => mulT (a i) n) n (fun i => mulB (a i) n) (fun k hk => pure_mul (ha k hk) hn) w).mono ?_
  rintro e w' ⟨(⟨hall, he⟩ | ⟨_, he⟩), hb⟩
  · exact absurd (fun i hi => of_decide_eq_true (hall i hi)) h
  · exact ⟨he, hb⟩
end Go.Proofs.YtbilkeadhflibaaGreatDoor.Vec

/- What strings.SplitN answers at a slash and four pieces, for every text: the pieces up to the third slash, in a new row; of memory that was there nothing turns. -/
namespace Go.Proofs.YtbilkeadhflibaaGreatDoor.Word
open Go.RowKit

/-- The pieces up to the k-th slash, and what is left. -/
def cutK : Nat → List UInt8 → List (List UInt8)
  | 0, l => [l]
  | k + 1, l => if Lib.indexByte l 47 = -1 then [l] else l.take (Lib.indexByte l 47).toNat :: cutK k (l.drop ((Lib.indexByte l 47).toNat + 1))

theorem index_cases (l : List UInt8) : (Lib.indexByte l 47 = -1 ∧ (47 : UInt8) ∉ l) ∨ ∃ i : Nat, Lib.indexByte l 47 = i ∧ i < l.length ∧ l = l.take i ++ 47 :: l.drop (i + 1) ∧ (47 : UInt8) ∉ l.take i := by
  have hge := Lib.indexByte_ge l 47
  by_cases h : Lib.indexByte l 47 = -1
  · left
    refine ⟨h, fun hm => ?_⟩
    obtain ⟨k, hk⟩ := List.mem_iff_getElem?.1 hm
    exact Lib.indexByte_none h k hk
  · right
    obtain ⟨i, hi⟩ := Int.eq_ofNat_of_zero_le (show 0 ≤ Lib.indexByte l 47 by omega)
    obtain ⟨h1, h2⟩ := Lib.indexByte_some hi
    obtain ⟨hlt, hv⟩ := List.getElem?_eq_some_iff.1 h1
    refine ⟨i, hi, hlt, ?_, fun hm => ?_⟩
    · rw [← hv, ← List.drop_eq_getElem_cons hlt, List.take_append_drop]
    · obtain ⟨k, hk⟩ := List.mem_iff_getElem?.1 hm
      rw [List.getElem?_take] at hk
      split at hk
      · rename_i hki; exact h2 k hki hk
      · simp at hk

theorem cutK_miss {l : List UInt8} (k : Nat) (h : Lib.indexByte l 47 = -1) : cutK k l = [l] := by
  cases k with
  | zero => rfl
  | succ k => rw [cutK, if_pos h]
theorem cutK_hit {l : List UInt8} (k i : Nat) (h : Lib.indexByte l 47 = i) : cutK (k + 1) l = l.take i :: cutK k (l.drop (i + 1)) := by
  rw [cutK, if_neg (by omega), h]; rfl
theorem pieces_hit {l : List UInt8} {i : Nat} (h : l = l.take i ++ 47 :: l.drop (i + 1)) (hm : (47 : UInt8) ∉ l.take i) : pieces l = l.take i :: pieces (l.drop (i + 1)) := by
  have := pieces_cut (l.drop (i + 1)) hm
  rw [← h] at this
  exact this

theorem cutK_few : ∀ (k : Nat) (l : List UInt8), (cutK k l).length ≤ k → cutK k l = pieces l
  | 0, l, h => by simp [cutK] at h
  | k + 1, l, h => by
    rcases index_cases l with ⟨h1, h2⟩ | ⟨i, h1, _, h3, h4⟩
    · rw [cutK_miss _ h1, pieces_free h2]
    · rw [cutK_hit k i h1] at h ⊢
      rw [cutK_few k _ (by simpa using h), pieces_hit h3 h4]
theorem cutK_all : ∀ (k : Nat) (l : List UInt8), l.length ≤ k → cutK k l = pieces l
  | 0, l, h => by
    obtain rfl : l = [] := List.eq_nil_of_length_eq_zero (by omega)
    rfl
  | k + 1, l, h => by
    rcases index_cases l with ⟨h1, h2⟩ | ⟨i, h1, h2, h3, h4⟩
    · rw [cutK_miss _ h1, pieces_free h2]
    · rw [cutK_hit k i h1, cutK_all k _ (by rw [List.length_drop]; omega), pieces_hit h3 h4]
theorem cutK_le : ∀ (k : Nat) (l : List UInt8), (cutK k l).length ≤ (pieces l).length
  | 0, l => by have := pieces_ne l; have := List.length_pos_iff.2 this; simp [cutK]; omega
  | k + 1, l => by
    rcases index_cases l with ⟨h1, h2⟩ | ⟨i, h1, h2, h3, h4⟩
    · rw [cutK_miss _ h1, pieces_free h2]; exact Nat.le_refl _
    · rw [cutK_hit k i h1, pieces_hit h3 h4, List.length_cons, List.length_cons]
      have := cutK_le k (l.drop (i + 1))
      omega
theorem cutK_length : ∀ (k : Nat) (l : List UInt8), (cutK k l).length ≤ k + 1 ∧ 1 ≤ (cutK k l).length
  | 0, l => by simp [cutK]
  | k + 1, l => by
    rcases index_cases l with ⟨h1, h2⟩ | ⟨i, h1, h2, h3, h4⟩
    · rw [cutK_miss _ h1]; simp
    · rw [cutK_hit k i h1, List.length_cons]
      have := cutK_length k (l.drop (i + 1))
      omega
/-- As many cuts as a short text can have are as good as three. -/
theorem cutK_three (l : List UInt8) : cutK (min 4 (l.length + 1) - 1) l = cutK 3 l := by
  by_cases h : 3 ≤ l.length
  · rw [show min 4 (l.length + 1) - 1 = 3 by omega]
  · rw [cutK_all _ l (by omega), cutK_all 3 l (by omega)]

/-! ### the walks -/

set_option maxHeartbeats 1000000 in
set_option maxRecDepth 100000 in
theorem indexByte_any (s : ByteArray) (c : Int) (w : World) :
    Calls Tryz.prog 173 #[.string s, .int .u8 c] w fun e w' => e = .returned (.int .i64 (Lib.indexByte s.data.toList c.toNat.toUInt8)) ∧ w = w' := by
  go_enter Tryz.func173, Tryz.ntmps173
  go_wp2
  rw [run_callFunc_extern Tryz.func179 (by kernel_rfl) (by kernel_rfl) (by kernel_rfl) (e := Extern.BytealgIndexByte.indexByte) (by kernel_rfl), Lib.run_indexByteString]
  simp only [Result.andThen]
  rw [Oper.upon_value]
  go_wp2
  go_ret
  exact ⟨rfl, rfl⟩

set_option maxHeartbeats 2000000 in
set_option maxRecDepth 100000 in
theorem index_lite (s : ByteArray) (w : World) :
    Calls Tryz.prog 162 #[.string s, .string ⟨#[47]⟩] w fun e w' => e = .returned (.int .i64 (Lib.indexByte s.data.toList 47)) ∧ w = w' := by
  go_enter Tryz.func162, Tryz.ntmps162
  go_wp2_with (go_at_call 173; refine (indexByte_any _ _ _).mono ?_; rintro e w' ⟨rfl, rfl⟩)
  · have h : ([47] == s.toList) = true := by assumption
    go_ret
    refine ⟨?_, rfl⟩
    have e : s.data.toList = [47] := by rw [← Lib.toList_data]; exact (beq_iff_eq.1 h).symm
    rw [e]
    rfl
  · go_ret
    exact ⟨rfl, rfl⟩
set_option maxHeartbeats 2000000 in
theorem index_any (s : ByteArray) (w : World) :
    Calls Tryz.prog 143 #[.string s, .string ⟨#[47]⟩] w fun e w' => e = .returned (.int .i64 (Lib.indexByte s.data.toList 47)) ∧ w = w' := by
  go_enter Tryz.func143, Tryz.ntmps143
  go_wp2_with (go_at_call 162; refine (index_lite _ _).mono ?_; rintro e w' ⟨rfl, rfl⟩)
  go_ret
  exact ⟨rfl, rfl⟩

theorem info9 : (Tryz.prog.info? 9).map (fun i => (i.zero, i.size, i.bytes)) = some (some (.string ByteArray.empty), 1, 16) := by kernel_rfl

theorem extract_take (s : ByteArray) (i : Nat) : s.extract 0 i = str (s.data.toList.take i) := by
  apply ByteArray.ext
  apply Array.toList_inj.1
  rw [Lib.extract_data]
  simp [str]
theorem extract_drop (s : ByteArray) (i : Nat) : s.extract i s.size = str (s.data.toList.drop i) := by
  apply ByteArray.ext
  apply Array.toList_inj.1
  rw [Lib.extract_data]
  simp [str]
  rw [List.take_of_length_le (by rw [List.length_drop, size_list]; omega)]

set_option maxHeartbeats 4000000 in
set_option maxRecDepth 1000000 in
theorem genSplit_any (s : ByteArray) (hs : s.size ≤ 4611686018427387904) (N : Nat) (hN : N = min 4 (s.size + 1)) (w : World) :
    Calls Tryz.prog 122 #[.string s, .string ⟨#[47]⟩, .int .i64 0, .int .i64 4] w fun e w' =>
      e = .returned (.slice (some ⟨w.heap.size, 0, none⟩) (cutK (N - 1) s.data.toList).length N) ∧ w' = w.alloc (.cells (Lib.cellsOf ((cutK (N - 1) s.data.toList).map str) N) 9) := by
  have eN : min (4 : Int) ((s.size : Int) + 1) = (N : Int) := by omega
  have hN4 : N ≤ 4 := by omega
  have hN1 : 1 ≤ N := by omega
  clear hN
  have hmk := run_make_row' (P := Tryz.prog) 28 9 (.string ByteArray.empty) 16 Tryz.underlying28 info9 rfl .i64 .i64 N (by omega) (by omega)
  go_enter Tryz.func122, Tryz.ntmps122
  go_wp2
  clear hmk eN
  go_loopg [0, 10] (N - 1) (fun g s0 s10 wr => ∃ (done : List (List UInt8)) (rest : ByteArray), s0 = .string rest ∧ s10 = .int .i64 done.length ∧ done.length ≤ N - 1 ∧ g = N - 1 - done.length ∧ rest.size ≤ s.size ∧
      wr = w.alloc (.cells (Lib.cellsOf (done.map str) N) 9) ∧ done ++ cutK (N - 1 - done.length) rest.data.toList = cutK (N - 1) s.data.toList)
  case atStart => exact ⟨[], s, rfl, rfl, Nat.zero_le _, rfl, Nat.le_refl _, by rw [List.map_nil, Lib.cellsOf_nil], rfl⟩
  case round =>
    obtain ⟨done, rest, rfl, rfl, hd, rfl, hrs, rfl, hsp⟩ := hrel
    have hlen : (done.map str).length = done.length := List.length_map _
    have hnext : (Lib.cellsOf (done.map str) N)[done.length]? = some (.string ByteArray.empty) := by
      have := Lib.cellsOf_next (done := done.map str) (N := N) (by omega)
      rwa [hlen] at this
    have HS := Lib.hid hsp
    clear hsp
    have fin : Hid (cutK (N - 1 - done.length) rest.data.toList = [rest.data.toList] → (cutK (N - 1) s.data.toList).length = done.length + 1 ∧ (Lib.cellsOf (done.map str) N).setIfInBounds done.length (.string rest) = Lib.cellsOf ((cutK (N - 1) s.data.toList).map str) N) := Lib.hid (fun h => by
      have e := HS.out
      rw [h] at e
      rw [← e]
      have := Lib.cellsOf_set (done := done.map str) (N := N) (by omega) rest
      rw [hlen] at this
      exact ⟨by simp, by rw [this, List.map_append, List.map_cons, List.map_nil, str_data]⟩)
    have HL := Lib.hid hlen
    clear hlen
    by_cases hlt : done.length < N - 1
    · have hltz : ((done.length : Nat) : Int) < (N : Int) - 1 := by omega
      rcases index_cases rest.data.toList with ⟨hix, hix'⟩ | ⟨i, hix, hroom, hl, hm⟩
      · have HM := Lib.hid hix
        have c0 : ((-1 : Int) < 0) := by omega
        clear hix hix'
        go_wp2_with (go_at_call 143; refine (index_any _ _).mono ?_; rintro e w' ⟨rfl, rfl⟩; rw [HM.out])
        go_ret
        obtain ⟨f1, f2⟩ := fin.out (cutK_miss _ HM.out)
        rw [f1, ← f2]
        exact ⟨by first | rfl | (congr 2 <;> omega), rfl⟩
      · have HM := Lib.hid hix
        have HE := Lib.hid hl
        rw [size_list] at hroom
        have c0 : ¬ ((i : Int) < 0) := by omega
        have c1 : (0 : Int) ≤ ↑i + 0 := by omega
        have c2 : (↑i + 0 : Int) ≤ ↑rest.size := by omega
        have c3 : (0 : Int) ≤ ↑i + 1 := by omega
        have c4 : (↑i + 1 : Int) ≤ ↑rest.size := by omega
        clear hix hl hm
        go_wp2_with (go_at_call 143; refine (index_any _ _).mono ?_; rintro e w' ⟨rfl, rfl⟩; rw [HM.out])
        go_roundg (N - 1 - (done.length + 1))
        case measure => omega
        case rel =>
          refine ⟨done ++ [rest.data.toList.take i], rest.extract (i + 1) rest.size, rfl, by simp, by simp; omega, by simp, by rw [ByteArray.size_extract]; omega, ?_, ?_⟩
          · have := Lib.cellsOf_set (done := done.map str) (N := N) (by rw [HL.out]; omega) (str (rest.data.toList.take i))
            rw [HL.out] at this
            rw [List.map_append, List.map_cons, List.map_nil, ← this, ← extract_take]
          · rw [← HS.out, extract_drop, str_toList, show N - 1 - done.length = (N - 1 - (done.length + 1)) + 1 by omega, cutK_hit _ i HM.out]
            simp
    · have hltz : ¬ (((done.length : Nat) : Int) < (N : Int) - 1) := by omega
      go_wp2
      go_ret
      obtain ⟨f1, f2⟩ := fin.out (by rw [show N - 1 - done.length = 0 by omega]; rfl)
      rw [f1, ← f2]
      exact ⟨by first | rfl | (congr 2 <;> omega), rfl⟩

set_option maxHeartbeats 1000000 in
theorem splitN_any (s : ByteArray) (hs : s.size ≤ 4611686018427387904) (N : Nat) (hN : N = min 4 (s.size + 1)) (w : World) :
    Calls Tryz.prog 88 #[.string s, .string ⟨#[47]⟩, .int .i64 4] w fun e w' =>
      e = .returned (.slice (some ⟨w.heap.size, 0, none⟩) (cutK (N - 1) s.data.toList).length N) ∧ w' = w.alloc (.cells (Lib.cellsOf ((cutK (N - 1) s.data.toList).map str) N) 9) := by
  have H := Lib.hid (genSplit_any s hs N hN w)
  clear hN
  go_enter Tryz.func88, Tryz.ntmps88
  go_wp2_with (go_at_call 122; refine H.out.mono ?_; rintro e w' ⟨rfl, hw⟩; rw [hw])
  go_ret
  exact ⟨rfl, rfl⟩

/-- A slice of texts: nothing, or a row whose cells hold them. -/
def Holds (w : World) (v : Value) (ls : List (List UInt8)) : Prop :=
  (ls = [] ∧ v = .slice none 0 0) ∨ ∃ g cap, v = .slice (some ⟨g, 0, none⟩) ls.length cap ∧ g < w.heap.size ∧ ls ≠ [] ∧ ls.length ≤ cap ∧ ∀ j, j < ls.length → w.cell? ⟨g, j, none⟩ = some (.string (str (ls.getD j [])))
theorem Holds.below {w w' : World} {v : Value} {ls : List (List UInt8)} (h : Holds w v ls) (hb : Below w.heap.size w w') : Holds w' v ls := by
  rcases h with h | ⟨g, cap, h1, h2, h3, h4, h5⟩
  · exact .inl h
  · refine .inr ⟨g, cap, h1, by have := hb.size; omega, h3, h4, fun j hj => ?_⟩
    rw [hb.cell h2]
    exact h5 j hj
/-- The call answers a slice of these texts; of memory that was there nothing turns. -/
def Gives (ls : List (List UInt8)) (w : World) (e : Ending) (w' : World) : Prop := ∃ v, e = .returned v ∧ Holds w' v ls ∧ Below w.heap.size w w'

theorem parts_cut (l : List UInt8) : parts l = if (cutK 3 l).length ≤ 3 ∧ (cutK 3 l).all right = true then cutK 3 l else [] := by
  by_cases h : (cutK 3 l).length ≤ 3
  · rw [cutK_few 3 l h]; rfl
  · rw [if_neg (fun hc => h hc.1)]
    unfold parts
    rw [if_neg (fun hc => h (Nat.le_trans (cutK_le 3 l) hc.1))]

theorem cell_of {ps : List (List UInt8)} {N k : Nat} {w : World} (T : TypeId) (hk : k < ps.length) :
    (w.alloc (.cells (Lib.cellsOf (ps.map str) N) T)).cell? ⟨w.heap.size, k, none⟩ = some (.string (str (ps.getD k []))) := by
  have hg : (w.alloc (.cells (Lib.cellsOf (ps.map str) N) T)).heap[w.heap.size]? = some (.cells (Lib.cellsOf (ps.map str) N) T) := by
    show (w.heap.push _)[w.heap.size]? = _
    simp
  have hc : (Lib.cellsOf (ps.map str) N)[k]? = some (.string (str (ps.getD k []))) := by
    unfold Lib.cellsOf
    rw [List.getElem?_toArray, List.getElem?_append_left (by simpa using hk)]
    simp [hk]
  simp only [World.cell?, hg, hc]
  rfl

set_option maxHeartbeats 2000000 in
set_option maxRecDepth 100000 in
theorem parts_walk (s : ByteArray) (ps : List (List UInt8)) (N : Nat) (h1 : 1 ≤ ps.length) (h4 : ps.length ≤ 4) (hN : ps.length ≤ N)
    (HP : Hid (parts s.data.toList = if ps.length ≤ 3 ∧ ps.all right = true then ps else []))
    (HS : Hid (∀ w, Calls Tryz.prog 88 #[.string s, .string ⟨#[47]⟩, .int .i64 4] w fun e w' =>
      e = .returned (.slice (some ⟨w.heap.size, 0, none⟩) ps.length N) ∧ w' = w.alloc (.cells (Lib.cellsOf (ps.map str) N) 9))) (w : World) :
    Calls Tryz.prog 43 #[.string s] w (Gives (parts s.data.toList) w) := by
  have hb0 : Below w.heap.size w (w.alloc (.cells (Lib.cellsOf (ps.map str) N) 9)) := (Below.refl _ _).alloc (Nat.le_refl _) _
  by_cases h3 : ps.length ≤ 3
  · have hcell : ∀ k, k < ps.length → (w.alloc (.cells (Lib.cellsOf (ps.map str) N) 9)).cell? ⟨w.heap.size, k, none⟩ = some (.string (str (ps.getD k []))) := fun k hk => cell_of _ hk
    have HC := Lib.hid hcell
    clear hcell
    go_enter Tryz.func43, Tryz.ntmps43
    go_wp2_with (go_at_call 88; refine (HS.out _).mono ?_; rintro e w' ⟨rfl, hw⟩; rw [hw])
    obtain ⟨w1, hw1⟩ : ∃ w1, w1 = w.alloc (.cells (Lib.cellsOf (ps.map str) N) 9) := ⟨_, rfl⟩
    rw [← hw1] at HC hb0 ⊢
    have hsz : w1.heap.size = w.heap.size + 1 := by rw [hw1]; show (w.heap.push _).size = _; simp
    have HZ := Lib.hid hsz
    clear hw1 hsz
    go_loopw [13] (fun i wr => ∃ k : Nat, i = .int .i64 k ∧ k ≤ ps.length ∧ (∀ x ∈ ps.take k, right x = true) ∧ Below w1.heap.size w1 wr) (fun i _ => ps.length - (intOf i).toNat)
    case atStart => exact ⟨0, rfl, Nat.zero_le _, by simp, Below.refl _ _⟩
    case round =>
      obtain ⟨k, rfl, hk, hall, hb⟩ := hrel
      have HA := Lib.hid hall
      clear hall
      by_cases hlt : k < ps.length
      · have hcl : wr.cell? ⟨w.heap.size, k, none⟩ = some (.string (str (ps.getD k []))) := by
          rw [hb.cell (by show w.heap.size < _; rw [HZ.out]; omega)]
          exact HC.out k hlt
        obtain ⟨p, hp⟩ : ∃ p, p = ps.getD k [] := ⟨_, rfl⟩
        rw [← hp] at hcl
        have HQ := Lib.hid hp
        clear hp
        have hr : Hid (right p = true) ∨ Hid (right p = false) := by cases h : right p; exact .inr (Lib.hid rfl); exact .inl (Lib.hid rfl)
        rcases hr with hr | hr
        · go_wp2_with (go_at_call 89; refine (right_any _ _).mono ?_; rintro e w2 ⟨rfl, hb2⟩; rw [str_toList, hr.out])
          go_roundw
          case rel =>
            refine ⟨k + 1, by go_num, by omega, fun x hx => ?_, hb.trans (hb2.mono hb.size)⟩
            rw [List.take_succ_eq_append_getElem hlt, List.mem_append, List.mem_singleton] at hx
            rcases hx with hx | hx
            · exact HA.out x hx
            · rw [hx]
              have := HQ.out
              rw [List.getD_eq_getElem?_getD, List.getElem?_eq_getElem hlt] at this
              rw [← show p = ps[k] from this]
              exact hr.out
          case measure => simp [intOf]; omega
        · go_wp2_with (go_at_call 89; refine (right_any _ _).mono ?_; rintro e w2 ⟨rfl, hb2⟩; rw [str_toList, hr.out])
          go_ret
          refine ⟨_, rfl, .inl ⟨?_, rfl⟩, hb0.trans ((hb.trans (hb2.mono hb.size)).mono hb0.size)⟩
          rw [HP.out, if_neg]
          rintro ⟨_, ha⟩
          have := List.all_eq_true.1 ha p (by
            have := HQ.out
            rw [List.getD_eq_getElem?_getD, List.getElem?_eq_getElem hlt] at this
            rw [show p = ps[k] from this]
            exact List.getElem_mem hlt)
          rw [hr.out] at this
          simp at this
      · have hkn : k = ps.length := by omega
        have HK := Lib.hid hkn
        clear hkn
        go_wp2
        go_ret
        refine ⟨_, rfl, ?_, hb0.trans (hb.mono hb0.size)⟩
        have ha : ps.all right = true := List.all_eq_true.2 (fun x hx => HA.out x (by rw [HK.out, List.take_length]; exact hx))
        rw [HP.out, if_pos ⟨h3, ha⟩]
        refine .inr ⟨w.heap.size, N, rfl, ?_, fun h => by rw [h] at h1; simp at h1, hN, fun j hj => ?_⟩
        · have := hb.size; have := HZ.out; omega
        · rw [hb.cell (by show w.heap.size < _; rw [HZ.out]; omega)]
          exact HC.out j hj
  · go_enter Tryz.func43, Tryz.ntmps43
    go_wp2_with (go_at_call 88; refine (HS.out _).mono ?_; rintro e w' ⟨rfl, hw⟩; rw [hw])
    go_ret
    exact ⟨_, rfl, .inl ⟨by rw [HP.out, if_neg (fun hc => h3 hc.1)], rfl⟩, hb0⟩

theorem parts_any (s : ByteArray) (hs : s.size ≤ 4611686018427387904) (w : World) : Calls Tryz.prog 43 #[.string s] w (Gives (parts s.data.toList) w) := by
  have h3 := cutK_three s.data.toList
  rw [size_list] at h3
  have hl := cutK_length (min 4 (s.size + 1) - 1) s.data.toList
  refine parts_walk s (cutK 3 s.data.toList) (min 4 (s.size + 1)) ?_ ?_ ?_ (Lib.hid (parts_cut _)) (Lib.hid fun w => ?_) w
  · rw [← h3]; exact hl.2
  · rw [← h3]; omega
  · rw [← h3]; omega
  · have := splitN_any s hs _ rfl w
    rw [h3] at this
    exact this
end Go.Proofs.YtbilkeadhflibaaGreatDoor.Word

/- What spec.Total, numbersOf, inBounds and Check answer of any job; of memory that was there nothing turns. -/
namespace Go.Proofs.YtbilkeadhflibaaGreatDoor.Job
open Go.RowKit Go.Proofs.YtbilkeadhflibaaGreatDoor.Wire Go.Proofs.YtbilkeadhflibaaGreatDoor.Vec Go.Proofs.YtbilkeadhflibaaGreatDoor.Sel

theorem mul_le {a b : Nat} : ((a : Int) * (b : Int) ≤ 18446744073709551615) ↔ a * b < 18446744073709551616 := by
  have : (a : Int) * (b : Int) = ((a * b : Nat) : Int) := by simp
  omega
theorem mulT_of {a b : Nat} (h : a * b < 18446744073709551616) : mulT (a : Int) (b : Int) = ((a * b : Nat) : Int) := by
  unfold mulT
  rw [if_pos (mul_le.2 h)]
  simp
theorem times_told (x : V4) (hx : fair4 x) (n : Nat) (hn : n < 18446744073709551616) (w : World) :
    Calls Tryz.prog 31 #[vecV x, .int .u64 n] w fun e w' => e = .returned (.tuple #[vecV ((timesV x n).getD (0, 0, 0, 0)), .bool (timesV x n).isSome]) ∧ Below w.heap.size w w' := by
  refine (times_four (fun k => (am x k : Int)) (fun k => mulT (am x k) n) n (fun k => mulB (am x k) n) (fun k hk => pure_mul (by have := hx k hk; omega) (by omega)) w).mono ?_
  rintro e w' ⟨⟨hall, rfl⟩ | ⟨⟨i, hi, hf⟩, rfl⟩, hb⟩
  · have h : ∀ k, k < 4 → am x k * n < 18446744073709551616 := fun k hk => mul_le.1 (of_decide_eq_true (hall k hk))
    rw [timesV_some h]
    refine ⟨?_, hb⟩
    simp only [mulT_of (h 0 (by omega)), mulT_of (h 1 (by omega)), mulT_of (h 2 (by omega)), mulT_of (h 3 (by omega))]
    rfl
  · have h : ¬ am x i * n < 18446744073709551616 := fun hc => of_decide_eq_false hf (mul_le.2 hc)
    rw [timesV_none hi h]
    exact ⟨rfl, hb⟩

set_option maxRecDepth 100000 in
set_option maxHeartbeats 1000000 in
theorem total_any (x : Jb) (hx : fair4 (dem x)) (s : Value) (w : World) :
    Calls Tryz.prog 11 #[valJ x s] w fun e w' => e = .returned (.tuple #[vecV ((totalJ x).getD (0, 0, 0, 0)), .bool (totalJ x).isSome]) ∧ Below w.heap.size w w' := by
  have HT := Lib.hid (fun W => times_told (dem x) hx (manyJ x) (manyJ_lt x) W)
  rw [manyJ_eq] at HT
  unfold totalJ
  obtain ⟨r, hr⟩ : ∃ r, r = (timesV (dem x) (manyJ x)).getD (0, 0, 0, 0) := ⟨_, rfl⟩
  obtain ⟨b, hb⟩ : ∃ b, b = (timesV (dem x) (manyJ x)).isSome := ⟨_, rfl⟩
  rw [← hr, ← hb] at HT ⊢
  clear hr hb hx
  obtain ⟨p, ⟨a0, a1, a2, a3⟩, ⟨n, m, k⟩, ls⟩ := x
  unfold valJ vecV vec
  unfold vecV vec at HT
  simp only [path, dem, cou, pri, tik, am] at HT ⊢
  obtain ⟨A0, h0⟩ : ∃ a : Int, a = a0 := ⟨_, rfl⟩
  obtain ⟨A1, h1⟩ : ∃ a : Int, a = a1 := ⟨_, rfl⟩
  obtain ⟨A2, h2⟩ : ∃ a : Int, a = a2 := ⟨_, rfl⟩
  obtain ⟨A3, h3⟩ : ∃ a : Int, a = a3 := ⟨_, rfl⟩
  rw [← h0, ← h1, ← h2, ← h3] at HT ⊢
  clear h0 h1 h2 h3
  obtain ⟨R0, h0⟩ : ∃ a : Int, a = am r 0 := ⟨_, rfl⟩
  obtain ⟨R1, h1⟩ : ∃ a : Int, a = am r 1 := ⟨_, rfl⟩
  obtain ⟨R2, h2⟩ : ∃ a : Int, a = am r 2 := ⟨_, rfl⟩
  obtain ⟨R3, h3⟩ : ∃ a : Int, a = am r 3 := ⟨_, rfl⟩
  simp only [am] at h0 h1 h2 h3
  rw [← h0, ← h1, ← h2, ← h3] at HT ⊢
  clear h0 h1 h2 h3
  go_enter Tryz.func11, Tryz.ntmps11
  go_wp2_with fail
  refine (HT.out _).mono ?_
  rintro e w1 ⟨rfl, hb⟩
  have hA : w1.heap[w.heap.size + 1]? = some (box 0 0 0 0) := (hb.block _ (by simp)).trans (heap_alloc2_new _ _ _)
  obtain ⟨c0, c1, c2, c3, f0, f1, f2, f3⟩ := cells4 hA
  have HA := Lib.hid (set4_box hA R0 R1 R2 R3)
  have HB := Lib.hid (set4_below (T := w.heap.size + 1) (a := R0) (b := R1) (c := R2) (d := R3) ((((Below.refl _ _).alloc (Nat.le_refl _) _).alloc (by simp) _).trans (hb.mono (by simp; omega))) (by omega))
  clear hA hb
  go_wp2
  obtain ⟨d0, d1, d2, d3, _⟩ := cells4 HA.out
  have hB := HB.out
  unfold set4 at d0 d1 d2 d3 hB
  refine bodyPost_ret (v := .tuple #[.agg #[.int .u64 R0, .int .u64 R1, .int .u64 R2, .int .u64 R3], .bool b]) (by simp [results, Tryz.results11, go_sem, d0, d1, d2, d3]) rfl ?_
  exact ⟨rfl, hB⟩

set_option maxRecDepth 100000 in
set_option maxHeartbeats 1000000 in
theorem numbersOf9 (p : ByteArray) (a0 a1 a2 a3 n m k : Int) (s : Value) (w : World) :
    Calls Tryz.prog 47 #[val9 p a0 a1 a2 a3 n m k s] w fun e w' => e = .returned (.agg #[.int .i64 n, .int .i64 m, .int .i64 k]) ∧ Below w.heap.size w w' := by
  unfold val9
  go_enter Tryz.func47, Tryz.ntmps47
  go_wp2
  obtain ⟨W, hW⟩ : ∃ W, W = (w.alloc (.cells #[.string p, .int .u64 a0, .int .u64 a1, .int .u64 a2, .int .u64 a3, .int .i64 n, .int .i64 m, .int .i64 k, s] 27)).alloc (.cells #[.int .i64 n, .int .i64 m, .int .i64 k] 87) := ⟨_, rfl⟩
  have hA : W.heap[w.heap.size + 1]? = some (.cells #[.int .i64 n, .int .i64 m, .int .i64 k] 87) := by rw [hW]; exact heap_alloc2_new _ _ _
  have hB : Below w.heap.size w W := by rw [hW]; exact ((Below.refl _ _).alloc (Nat.le_refl _) _).alloc (by simp) _
  rw [← hW]
  clear hW
  have d0 := cell_at (i := 0) hA rfl
  have d1 := cell_at (i := 1) hA rfl
  have d2 := cell_at (i := 2) hA rfl
  refine bodyPost_ret (v := .agg #[.int .i64 n, .int .i64 m, .int .i64 k]) (by simp [results, Tryz.results47, go_sem, d0, d1, d2]) rfl ?_
  exact ⟨rfl, hB⟩

set_option maxRecDepth 100000 in
set_option maxHeartbeats 1000000 in
theorem inBounds9 (p : ByteArray) (a0 a1 a2 a3 n m k : Int) (s : Value) (w : World) :
    Calls Tryz.prog 44 #[val9 p a0 a1 a2 a3 n m k s] w fun e w' => e = .returned (.bool (inB n m k)) ∧ Below w.heap.size w w' := by
  unfold val9 inB
  have hb : ∀ o, Below w.heap.size w (w.alloc o) := fun o => (Below.refl _ _).alloc (Nat.le_refl _) o
  by_cases h1 : 1 ≤ n
  · by_cases h2 : n ≤ 8
    · by_cases h3 : 0 ≤ m
      · by_cases h4 : m ≤ 9
        · by_cases h5 : 1 ≤ k
          · by_cases h6 : k ≤ 100
            · rw [decide_eq_true (show 1 ≤ n ∧ n ≤ 8 ∧ 0 ≤ m ∧ m ≤ 9 ∧ 1 ≤ k ∧ k ≤ 100 by omega)]
              go_enter Tryz.func44, Tryz.ntmps44
              go_wp2
              go_ret
              exact ⟨rfl, hb _⟩
            · rw [decide_eq_false (show ¬ (1 ≤ n ∧ n ≤ 8 ∧ 0 ≤ m ∧ m ≤ 9 ∧ 1 ≤ k ∧ k ≤ 100) by omega)]
              go_enter Tryz.func44, Tryz.ntmps44
              go_wp2
              go_ret
              exact ⟨rfl, hb _⟩
          · rw [decide_eq_false (show ¬ (1 ≤ n ∧ n ≤ 8 ∧ 0 ≤ m ∧ m ≤ 9 ∧ 1 ≤ k ∧ k ≤ 100) by omega)]
            go_enter Tryz.func44, Tryz.ntmps44
            go_wp2
            go_ret
            exact ⟨rfl, hb _⟩
        · rw [decide_eq_false (show ¬ (1 ≤ n ∧ n ≤ 8 ∧ 0 ≤ m ∧ m ≤ 9 ∧ 1 ≤ k ∧ k ≤ 100) by omega)]
          go_enter Tryz.func44, Tryz.ntmps44
          go_wp2
          go_ret
          exact ⟨rfl, hb _⟩
      · rw [decide_eq_false (show ¬ (1 ≤ n ∧ n ≤ 8 ∧ 0 ≤ m ∧ m ≤ 9 ∧ 1 ≤ k ∧ k ≤ 100) by omega)]
        go_enter Tryz.func44, Tryz.ntmps44
        go_wp2
        go_ret
        exact ⟨rfl, hb _⟩
    · rw [decide_eq_false (show ¬ (1 ≤ n ∧ n ≤ 8 ∧ 0 ≤ m ∧ m ≤ 9 ∧ 1 ≤ k ∧ k ≤ 100) by omega)]
      go_enter Tryz.func44, Tryz.ntmps44
      go_wp2
      go_ret
      exact ⟨rfl, hb _⟩
  · rw [decide_eq_false (show ¬ (1 ≤ n ∧ n ≤ 8 ∧ 0 ≤ m ∧ m ≤ 9 ∧ 1 ≤ k ∧ k ≤ 100) by omega)]
    go_enter Tryz.func44, Tryz.ntmps44
    go_wp2
    go_ret
    exact ⟨rfl, hb _⟩

theorem Holds.len {w : World} {v : Value} {ls : List (List UInt8)} (h : Word.Holds w v ls) : ∃ a cap, v = .slice a ls.length cap := by
  rcases h with ⟨rfl, rfl⟩ | ⟨g, cap, rfl, _⟩
  · exact ⟨_, _, rfl⟩
  · exact ⟨_, _, rfl⟩

set_option maxRecDepth 100000 in
set_option maxHeartbeats 2000000 in
theorem check_any (x : Jb) (s : Value) (w : World) (hf : FairJ x) (hs : TRow w s (terms x)) :
    Calls Tryz.prog 19 #[valJ x s] w fun e w' => e = .returned (.int .i64 (checkJ x)) ∧ Below w.heap.size w w' := by
  have HT := Lib.hid (fun W => total_any x hf.dem s W)
  have HP := Lib.hid (fun W => Word.parts_any (path x) (by have := hf.path; omega) W)
  have HI := Lib.hid (fun W => inBounds9 (path x) (am (dem x) 0) (am (dem x) 1) (am (dem x) 2) (am (dem x) 3) (cou x) (pri x) (tik x) s W)
  have HR := Lib.hid (fun W (h : Below w.heap.size w W) => right_sel s (terms x) W (hs.below h) hf.terms)
  have HC : Hid (checkJ x = if Word.parts (path x).data.toList = [] then 6 else if inB (cou x) (pri x) (tik x) = false then 1 else if rightS (terms x) = false then 2 else if (totalJ x).isSome = false then 5 else 0) := Lib.hid rfl
  obtain ⟨R, hR⟩ : ∃ R, R = checkJ x := ⟨_, rfl⟩
  rw [← hR] at HC ⊢
  obtain ⟨b, hb⟩ : ∃ b, b = (totalJ x).isSome := ⟨_, rfl⟩
  obtain ⟨t, ht⟩ : ∃ t, t = (totalJ x).getD (0, 0, 0, 0) := ⟨_, rfl⟩
  obtain ⟨i, hi⟩ : ∃ i, i = inB (cou x) (pri x) (tik x) := ⟨_, rfl⟩
  obtain ⟨r, hr⟩ : ∃ r, r = rightS (terms x) := ⟨_, rfl⟩
  obtain ⟨ps, hps⟩ : ∃ ps, ps = Word.parts (path x).data.toList := ⟨_, rfl⟩
  rw [← hb, ← ht] at HT
  rw [← hps] at HP
  rw [← hi] at HI
  rw [← hr] at HR
  rw [← hps, ← hi, ← hr, ← hb] at HC
  clear hR hb ht hi hr hps hf hs
  rw [valJ_eq] at HT ⊢
  obtain ⟨p, ⟨a0, a1, a2, a3⟩, ⟨n, m, k⟩, ls⟩ := x
  simp only [path, dem, cou, pri, tik, am] at HT HP HI ⊢
  obtain ⟨A0, h0⟩ : ∃ a : Int, a = a0 := ⟨_, rfl⟩
  obtain ⟨A1, h1⟩ : ∃ a : Int, a = a1 := ⟨_, rfl⟩
  obtain ⟨A2, h2⟩ : ∃ a : Int, a = a2 := ⟨_, rfl⟩
  obtain ⟨A3, h3⟩ : ∃ a : Int, a = a3 := ⟨_, rfl⟩
  rw [← h0, ← h1, ← h2, ← h3] at HT HI ⊢
  clear h0 h1 h2 h3
  unfold val9
  unfold val9 vecV vec at HT
  unfold val9 at HI
  go_enter Tryz.func19, Tryz.ntmps19
  go_wp2_with fail
  refine (HT.out _).mono ?_
  rintro e w1 ⟨rfl, hb1⟩
  have hA : w1.heap[w.heap.size]? = some (box9 p A0 A1 A2 A3 n m k s) := (hb1.block _ (by simp)).trans (heap_alloc_new w _)
  have hB1 : Below w.heap.size w w1 := ((Below.refl _ _).alloc (Nat.le_refl _) _).trans (hb1.mono (by simp))
  clear hb1
  obtain ⟨T0, ht0⟩ : ∃ a : Int, a = am t 0 := ⟨_, rfl⟩
  obtain ⟨T1, ht1⟩ : ∃ a : Int, a = am t 1 := ⟨_, rfl⟩
  obtain ⟨T2, ht2⟩ : ∃ a : Int, a = am t 2 := ⟨_, rfl⟩
  obtain ⟨T3, ht3⟩ : ∃ a : Int, a = am t 3 := ⟨_, rfl⟩
  rw [← ht0, ← ht1, ← ht2, ← ht3]
  clear ht0 ht1 ht2 ht3
  go_upto_region 2 with fail
  obtain ⟨W, hW⟩ : ∃ W, W = w1.alloc (.cells #[.int .u64 T0, .int .u64 T1, .int .u64 T2, .int .u64 T3] 24) := ⟨_, rfl⟩
  have hAW : W.heap[w.heap.size]? = some (box9 p A0 A1 A2 A3 n m k s) := by
    rw [hW, heap_alloc_old _ _ (World.block_lt_of_cell? w1 ⟨w.heap.size, 0, none⟩ (cell_at hA rfl))]
    exact hA
  have HB1 : Hid (Below w.heap.size w W) := Lib.hid (by rw [hW]; exact hB1.alloc hB1.size _)
  rw [← hW]
  clear hW hA hB1
  obtain ⟨⟨c0, c1, c2, c3, c4, c5, c6, c7, c8⟩, _⟩ := cells9 hAW
  have HA := Lib.hid hAW
  clear hAW
  go_wp2_with fail
  refine (HP.out _).mono ?_
  rintro e w2 ⟨v, rfl, hv, hb2⟩
  obtain ⟨va, vc, rfl⟩ := Holds.len hv
  clear hv c0 c1 c2 c3 c4 c5 c6 c7 c8
  have hA : w2.heap[w.heap.size]? = some (box9 p A0 A1 A2 A3 n m k s) := (hb2.block _ (World.block_lt_of_cell? W ⟨w.heap.size, 0, none⟩ (cell_at HA.out rfl))).trans HA.out
  have HB2 := Lib.hid (HB1.out.trans (hb2.mono HB1.out.size))
  clear HA hb2
  obtain ⟨⟨c0, c1, c2, c3, c4, c5, c6, c7, c8⟩, _⟩ := cells9 hA
  have HA := Lib.hid hA
  clear hA
  by_cases hp : ps = []
  · subst hp
    have hl : (([] : List (List UInt8)).length : Int) = 0 := rfl
    go_wp2
    go_ret
    exact ⟨by rw [HC.out]; rfl, HB2.out⟩
  · have hl : ((ps.length : Int) == 0) = false := by
      have := List.length_pos_iff.2 hp
      simp
      omega
    have hl' : ¬ (ps.length : Int) = 0 := by simpa using hl
    have HCp := Lib.hid (HC.out.trans (if_neg hp))
    clear hp HC
    obtain ⟨q, hq⟩ : ∃ q : Int, q = ps.length := ⟨_, rfl⟩
    rw [← hq] at hl hl'
    go_wp2_with fail
    refine (HI.out _).mono ?_
    rintro e w3 ⟨rfl, hb3⟩
    have hA : w3.heap[w.heap.size]? = some (box9 p A0 A1 A2 A3 n m k s) := (hb3.block _ (World.block_lt_of_cell? w2 ⟨w.heap.size, 0, none⟩ (cell_at HA.out rfl))).trans HA.out
    have HB3 := Lib.hid (HB2.out.trans (hb3.mono HB2.out.size))
    clear HA hb3 c0 c1 c2 c3 c4 c5 c6 c7 c8
    obtain ⟨⟨c0, c1, c2, c3, c4, c5, c6, c7, c8⟩, _⟩ := cells9 hA
    clear hA
    cases i
    · go_wp2
      go_ret
      exact ⟨by rw [HCp.out]; rfl, HB3.out⟩
    · go_wp2_with fail
      refine (HR.out _ HB3.out).mono ?_
      rintro e w4 ⟨rfl, hb4⟩
      have HB4 := Lib.hid (HB3.out.trans (hb4.mono HB3.out.size))
      clear hb4 c0 c1 c2 c3 c4 c5 c6 c7 c8
      cases r
      · go_wp2
        go_ret
        exact ⟨by rw [HCp.out]; rfl, HB4.out⟩
      · cases b
        · go_wp2
          go_ret
          exact ⟨by rw [HCp.out]; rfl, HB4.out⟩
        · go_wp2
          go_ret
          exact ⟨by rw [HCp.out]; rfl, HB4.out⟩
end Go.Proofs.YtbilkeadhflibaaGreatDoor.Job

/- A whole struct by value, out of and into a block of memory, whatever its cells are: the steps of a walk, in regions that keep their order and in quiet ones; of no function of the program. -/
namespace Go.Proofs.YtbilkeadhflibaaGreatDoor.Whole
open Go.RowKit

/-- Is it laid out over cells? -/
def wide (d : TypeDesc) : Bool := match d with | .struct _ | .array _ _ => true | _ => false

theorem run_load {P : Program} (w : World) (b : Nat) (t : TypeId) (c : Array Value) (d : TypeDesc) {t' : TypeId} {fr : Nat × Nat} (hb : w.heap[b]? = some (.cells c t' fr)) (hu : P.underlying t = some d) (hd : wide d = true) (hi : (P.info? t).map (·.size) = some c.size) :
    (Instr.loadAt t (.pointer (some ⟨b, 0, none⟩))).run P w = .ok (.agg c) w := by
  simp only [Instr.loadAt, Instr.sureAddr, Sem.run_bind, Sem.run_pure, Result.andThen]
  exact run_loadVar_row _ _ t' t c fr d hb hu (by cases d <;> simp_all [wide]) hi
theorem run_store {P : Program} (w : World) (b : Nat) (t : TypeId) (c c' : Array Value) (hb : w.heap[b]? = some (.cells c t)) (hi : (P.info? t).map (·.size) = some c'.size) (ho : c.size = c'.size) (h1 : c'.all (·.oneCell') = true) :
    (Instr.storeAt t (.pointer (some ⟨b, 0, none⟩)) (.agg c')).run P w = .ok () (w.setRow b c') := by
  simp only [Instr.storeAt, Instr.sureAddr, Sem.run_bind, Sem.run_pure, Result.andThen]
  exact run_storeVar_row _ _ t t c c' hb hi ho h1
theorem load {P : Program} (w : World) {ops : Array Oper} {rest : List Oper} {o : Oper} {a : Act} {Q : Exit → Act → World → Prop} (hgd : o.guard = none) (p : Operand) (t : TypeId) (ho : o.op = .load t p)
    (b : Nat) (c : Array Value) (d : TypeDesc) (hp : a.eval p = .pointer (some ⟨b, 0, none⟩)) {t' : TypeId} {fr : Nat × Nat} (hb : w.heap[b]? = some (.cells c t' fr)) (hu : P.underlying t = some d) (hd : wide d = true) (hi : (P.info? t).map (·.size) = some c.size)
    (h : wpList P ops Q rest (a.put o.dst (.agg c)) w) : wpList P ops Q (o :: rest) a w := by
  refine wpList_plain hgd fun K hK => ?_
  have hr := run_load w b t c d hb hu hd hi
  unfold Oper.wp execOp
  simp only [ho, Sem.run_bind, Sem.run_pure, Result.andThen_ok, hp, hr]
  exact hK _ _ h
theorem store {P : Program} (w : World) {ops : Array Oper} {rest : List Oper} {o : Oper} {a : Act} {Q : Exit → Act → World → Prop} (hgd : o.guard = none) (hd : o.dst = none) (p x : Operand) (t : TypeId) (ho : o.op = .store t p x)
    (b : Nat) (c c' : Array Value) (hp : a.eval p = .pointer (some ⟨b, 0, none⟩)) (hx : a.eval x = .agg c') (hb : w.heap[b]? = some (.cells c t)) (hi : (P.info? t).map (·.size) = some c'.size) (hs : c.size = c'.size) (h1 : c'.all (·.oneCell') = true)
    (h : wpList P ops Q rest a (w.setRow b c')) : wpList P ops Q (o :: rest) a w := by
  refine wpList_plain hgd fun K hK => ?_
  have hr := run_store w b t c c' hb hi hs h1
  have he : a.put o.dst undef = a := by rw [hd]; rfl
  unfold Oper.wp execOp
  simp only [ho, Sem.run_bind, Sem.run_pure, Result.andThen_ok, hp, hx, hr]
  refine hK _ _ ?_
  rw [he]
  exact h
/-- The same of a guarded one that is wanted. -/
theorem loadW {P : Program} (w : World) {ops : Array Oper} {rest : List Oper} {o : Oper} {a : Act} {Q : Exit → Act → World → Prop} (hgd : Region.wanted o (yielded ops a.tmps) = true) (p : Operand) (t : TypeId) (ho : o.op = .load t p)
    (b : Nat) (c : Array Value) (d : TypeDesc) (hp : a.eval p = .pointer (some ⟨b, 0, none⟩)) {t' : TypeId} {fr : Nat × Nat} (hb : w.heap[b]? = some (.cells c t' fr)) (hu : P.underlying t = some d) (hd : wide d = true) (hi : (P.info? t).map (·.size) = some c.size)
    (h : wpList P ops Q rest (a.put o.dst (.agg c)) w) : wpList P ops Q (o :: rest) a w := by
  refine wpList_step fun K hK => ?_
  rw [if_pos hgd]
  have hr := run_load w b t c d hb hu hd hi
  unfold Oper.wp execOp
  simp only [ho, Sem.run_bind, Sem.run_pure, Result.andThen_ok, hp, hr]
  exact hK _ _ h
theorem row_below {B g : Nat} {w0 w : World} (h : Below B w0 w) (hg : B ≤ g) (c : Array Value) : Below B w0 (w.setRow g c) :=
  ⟨h.os, h.tape, h.output, by simpa using h.size, fun k hk => (setRow_other w g k c (by omega)).trans (h.block k hk)⟩
/-- What is handed back out of one block. -/
theorem result_one {fn : Func} {p : Tmp} {ty : TypeId} (h : fn.results = #[.cell p ty]) (tmps : Array Value) (P : Program) (w : World) {b : Nat} {c : Array Value} {d : TypeDesc} (hp : tmps.getD p undef = .pointer (some ⟨b, 0, none⟩))
    {t' : TypeId} (hb : w.heap[b]? = some (.cells c t')) (hu : P.underlying ty = some d) (hd : wide d = true) (hi : (P.info? ty).map (·.size) = some c.size) : (results fn tmps).run P w = .ok (.agg c) w := by
  have hr := run_loadVar_row (P := P) w b t' ty c (0, 0) d hb hu (by cases d <;> simp_all [wide]) hi
  have hp' : tmps[p]?.getD undef = .pointer (some ⟨b, 0, none⟩) := by rw [← hp, Array.getD_eq_getD_getElem?]
  simp only [results, h]
  simp [hp', asAddr, hr]
/-- Out of a block, and a slot. -/
theorem result_two {fn : Func} {p q : Tmp} {ty : TypeId} (h : fn.results = #[.cell p ty, .tmp q]) (tmps : Array Value) (P : Program) (w : World) {b : Nat} {c : Array Value} {d : TypeDesc} (hp : tmps.getD p undef = .pointer (some ⟨b, 0, none⟩))
    {t' : TypeId} (hb : w.heap[b]? = some (.cells c t')) (hu : P.underlying ty = some d) (hd : wide d = true) (hi : (P.info? ty).map (·.size) = some c.size) {v : Value} (hv : tmps.getD q undef = v) : (results fn tmps).run P w = .ok (.tuple #[.agg c, v]) w := by
  have hr := run_loadVar_row (P := P) w b t' ty c (0, 0) d hb hu (by cases d <;> simp_all [wide]) hi
  have hp' : tmps[p]?.getD undef = .pointer (some ⟨b, 0, none⟩) := by rw [← hp, Array.getD_eq_getD_getElem?]
  have hv' : tmps[q]?.getD undef = v := by rw [← hv, Array.getD_eq_getD_getElem?]
  simp only [results, h]
  simp [hp', hv', asAddr, hr]

/-! ### In a quiet region -/
theorem list_of_quiet {P : Program} {ops : Array Oper} {C : World → Prop} {Qa : Act → Prop} {Q : Exit → Act → World → Prop} (hQ : ∀ a w, C w → Qa a → Q .normal a w) : ∀ (l : List Oper) (a : Act) (w : World), C w → wpQuiet P ops C Qa l a → wpList P ops Q l a w
  | [], a, w, hw, h => hQ a w hw h
  | o :: l, a, w, hw, h => by
    unfold wpQuiet at h
    unfold wpList
    by_cases hg : Region.wanted o (yielded ops a.tmps) = true
    · rw [if_pos hg] at h ⊢
      exact .inl (Oper.wp_of_quiet hw (fun a' w' hw' => list_of_quiet hQ l a' w' hw') h)
    · rw [if_neg hg] at h ⊢
      exact list_of_quiet hQ l _ w hw h
/-- A region that keeps its order, whose calls may make memory but turn nothing that was there. -/
theorem regionL {P : Program} {id : Nat} {Q : Exit → Act → World → Prop} {a : Act} {w : World} {l : List Oper}
    (h : wpQuiet P l.toArray (fun w' => ∃ p : Quiet.Behind w, w' = p.world) (fun a' => ∀ w', (∃ p : Quiet.Behind w, w' = p.world) → Q .normal a' w') l a) : (Code.region id l.toArray false).wp P Q a w :=
  wp_region_lit (list_of_quiet (fun _ _ hw h => h _ hw) l a w (Quiet.Behind.of (Below.refl _ _)) h)
/-- An operation whose run is known in every world of the class. -/
theorem quiet_run {P : Program} {C : World → Prop} {o : Oper} {a : Act} {K : Act → Prop} (v : Value) (h : ∀ w, C w → (execOp a.eval o).run P w = .ok (.value v) w) (hk : K (a.put o.dst v)) : o.quiet P a C K :=
  ⟨v, fun w hw => by unfold Oper.quietAt; rw [h w hw]; exact ⟨rfl, rfl⟩, hk⟩
theorem quiet_load {P : Program} {wr : World} {o : Oper} {a : Act} {K : Act → Prop} (p : Operand) (t : TypeId) (ho : o.op = .load t p) (b : Nat) (c : Array Value) (d : TypeDesc) (hp : a.eval p = .pointer (some ⟨b, 0, none⟩))
    {t' : TypeId} (hb : wr.heap[b]? = some (.cells c t')) (hu : P.underlying t = some d) (hd : wide d = true) (hi : (P.info? t).map (·.size) = some c.size) (hk : K (a.put o.dst (.agg c))) :
    o.quiet P a (fun w' => ∃ q : Quiet.Behind wr, w' = q.world) K := by
  refine quiet_run (.agg c) ?_ hk
  rintro w ⟨q, rfl⟩
  have hb' : q.world.heap[b]? = some (.cells c t') := (q.below.block b (Array.getElem?_eq_some_iff.1 hb).1).trans hb
  have hr := run_load q.world b t c d hb' hu hd hi
  unfold execOp
  simp only [ho, Sem.run_bind, Sem.run_pure, Result.andThen_ok, hp, hr]
theorem run_guard {P : Program} (b : BinOp) (t : TypeId) (x y : Operand) (c c' : Array Value) (hg : P.eqGuardType P.depth t = false) (w : World) : (eqGuard b t x y (.agg c) (.agg c')).run P w = .ok () w := by
  unfold eqGuard
  cases b <;> simp [hg]
/-- Two values held against one another. -/
theorem quiet_bin {P : Program} {wr : World} {o : Oper} {a : Act} {K : Act → Prop} (b : BinOp) (x y : Operand) (t t' : TypeId) (ho : o.op = .binOp b t x y t') (v : Value) (c c' : Array Value) (hx : a.eval x = .agg c) (hy : a.eval y = .agg c') (hg : P.eqGuardType P.depth t = false)
    (h : ∀ w, (binOp b t (.agg c) (.agg c')).run P w = .ok v w) (hk : K (a.put o.dst v)) : o.quiet P a (fun w' => ∃ q : Quiet.Behind wr, w' = q.world) K := by
  refine quiet_run v ?_ hk
  rintro w ⟨q, rfl⟩
  have h1 := run_guard b t x y c c' hg q.world
  have h2 := h q.world
  unfold execOp
  simp only [ho, Sem.run_bind, Sem.run_pure, Result.andThen_ok, hx, hy, h1, h2]
/-- The same in a region that keeps its order. -/
theorem bin {P : Program} (w : World) {ops : Array Oper} {rest : List Oper} {o : Oper} {a : Act} {Q : Exit → Act → World → Prop} (hgd : Region.wanted o (yielded ops a.tmps) = true) (b : BinOp) (x y : Operand) (t t' : TypeId) (ho : o.op = .binOp b t x y t') (v : Value) (c c' : Array Value)
    (hx : a.eval x = .agg c) (hy : a.eval y = .agg c') (hg : P.eqGuardType P.depth t = false) (h : ∀ w, (binOp b t (.agg c) (.agg c')).run P w = .ok v w) (hk : wpList P ops Q rest (a.put o.dst v) w) : wpList P ops Q (o :: rest) a w := by
  refine wpList_step fun K hK => ?_
  rw [if_pos hgd]
  have h1 := run_guard b t x y c c' hg w
  have h2 := h w
  unfold Oper.wp execOp
  simp only [ho, Sem.run_bind, Sem.run_pure, Result.andThen_ok, hx, hy, h1, h2]
  exact hK _ _ hk
/-! ### In a region that draws, operation by operation -/
theorem held_load {P : Program} {w : World} {o : Oper} {a : Act} (p : Operand) (t : TypeId) (ho : o.op = .load t p) (b : Nat) (c : Array Value) (d : TypeDesc) (hp : a.eval p = .pointer (some ⟨b, 0, none⟩))
    {t' : TypeId} (hb : w.heap[b]? = some (.cells c t')) (hu : P.underlying t = some d) (hd : wide d = true) (hi : (P.info? t).map (·.size) = some c.size) : (execOp a.eval o).run P w = .ok (.value (.agg c)) w := by
  have hr := run_load w b t c d hb hu hd hi
  unfold execOp
  simp only [ho, Sem.run_bind, Sem.run_pure, Result.andThen_ok, hp, hr]
theorem step_store {P : Program} (w : World) {ops : Array Oper} {o : Oper} {a : Act} {K : Act → World → Prop} {Q : Exit → Act → World → Prop} {E : Prop} (hgd : o.guard = none) (p x : Operand) (t : TypeId) (ho : o.op = .store t p x)
    (b : Nat) (c c' : Array Value) (hp : a.eval p = .pointer (some ⟨b, 0, none⟩)) (hx : a.eval x = .agg c') (hb : w.heap[b]? = some (.cells c t)) (hi : (P.info? t).map (·.size) = some c'.size) (hs : c.size = c'.size) (h1 : c'.all (·.oneCell') = true)
    (h : K (a.put o.dst undef) (w.setRow b c')) : if Region.wanted o (yielded ops a.tmps) = true then Oper.wp P o a w K Q else E := by
  have hw : Region.wanted o (yielded ops a.tmps) = true := by simp [Region.wanted, hgd]
  rw [if_pos hw]
  have hr := run_store w b t c c' hb hi hs h1
  unfold Oper.wp execOp
  simp only [ho, Sem.run_bind, Sem.run_pure, Result.andThen_ok, hp, hx, hr]
  exact h
end Go.Proofs.YtbilkeadhflibaaGreatDoor.Whole
