/- A region that draws its order, whose calls may make memory but turn nothing that was there: one walk, in the order of the text, serves every order. Of no program. -/
import Derived.BigQuiet
import Derived.Below
import Derived.WalkKit
namespace Go.Proofs.Ytimaehaaidjokaa.Quiet
open Go.RowKit

/-- A world behind this one, in which all that was there is as it was. -/
def Behind (w : World) : Type := { x : World // Below w.heap.size w x }
def Behind.world {w : World} (p : Behind w) : World := p.1
theorem Behind.below {w : World} (p : Behind w) : Below w.heap.size w p.world := p.2
instance (w : World) : Nonempty (Behind w) := ⟨⟨w, Below.refl _ _⟩⟩
theorem Behind.of {w x : World} (h : Below w.heap.size w x) : ∃ p : Behind w, x = p.world := ⟨⟨x, h⟩, rfl⟩

theorem region {P : Program} {id : Nat} {Q : Exit → Act → World → Prop} {a : Act} {w : World} {l : List Oper} (hm : P.follows .mixedOrders = true) (hB : Region.lexB .any l.toArray = true)
    (h : wpQuiet P l.toArray (fun w' => ∃ p : Behind w, w' = p.world) (fun a' => ∀ w', (∃ p : Behind w, w' = p.world) → Q .normal a' w') l a) : (Code.region id l.toArray true).wp P Q a w :=
  wp_region_quiet (C := fun w' => ∃ p : Behind w, w' = p.world) hm hB (Behind.of ((Below.refl _ _).drew)) (by simpa using h)

/-- A callee's contract, met in such a world. -/
theorem calls {P : Program} {f : FuncId} {args : Array Value} {w : World} {p : Behind w} {v : Value}
    (h : Calls P f args p.world fun e w' => e = .returned v ∧ Below p.world.heap.size p.world w') : Calls P f args p.world fun e w'' => e = .returned v ∧ ∃ q : Behind w, w'' = q.world :=
  h.mono fun _ _ ⟨he, hb⟩ => ⟨he, Behind.of (p.below.trans (hb.mono p.below.size))⟩
/-- A cell that was there. -/
theorem cell {w : World} {a : Addr} {v : Value} (hb : a.block < w.heap.size) (h : w.cell? a = some v) (p : Behind w) : p.world.cell? a = some v := by
  rw [p.below.cell hb]; exact h
end Go.Proofs.Ytimaehaaidjokaa.Quiet
