/- From what the row lists to what the walks ask: the package's own error is there. -/
import Derived.Test.YtcgknkbigbbfdaaDoorSSplit
import Derived.Test.YtcgknkbigbbfdaaDoorRows
import Derived.Test.YtcgknkbigbbfdaaDoorTie
import Derived.Test.YtcgknkbigbbfdaaDoorCards
import Derived.Stop.LaidErr
import Derived.LaidMore
namespace Go.Proofs.YtcgknkbigbbfdaaDoor.Sel
open Go.RowKit

theorem errNamed : Tryd.prog.globalNamed "demesne/sel.errWrong" = some 0 := by kernel_rfl
theorem errType : (Tryd.prog.globals[0]?).map (·.type) = some 88 := by kernel_rfl
theorem errIface : ∃ ms, Tryd.prog.underlying 88 = some (.interface ms) := ⟨_, Tryd.underlying88⟩
theorem err_of {x : String × DataW Unit} {nm : String} {d : DataW Unit} {r : List (String × DataW Unit)} {W : World} (h : laidMet Tryd.prog (x :: ("demesne/sel.errWrong", .iface nm d) :: r) W) : Err W := by
  obtain ⟨ps, ⟨g0, t0, cs0, f0, p0, q0, hg0, ht0, hv0, hd0, _, e0⟩, _, hrows⟩ := h.tail
  obtain rfl := Option.some.inj (errNamed.symm.trans hg0)
  obtain rfl := Option.some.inj (errType.symm.trans ht0)
  obtain ⟨ms, hi⟩ := errIface
  obtain ⟨f1, u, v, hcs, _⟩ := iface_of_trod hi hd0
  have hc := World.var?_cell hg0 hv0 0
  rw [← Array.getElem?_toList, hcs] at hc
  exact ⟨u, v, hc⟩
theorem err_met {x : String × DataW Unit} {nm : String} {d : DataW Unit} {r : List (String × DataW Unit)} {W : World} (hp : ((x :: ("demesne/sel.errWrong", DataW.iface nm d) :: r).all fun x => x.2.handleName?.isNone) = true) (h : laidMetH Tryd.prog (x :: ("demesne/sel.errWrong", .iface nm d) :: r) W) : Err W := by
  rw [MakeChecks.laidMetH_plain _ _ _ hp] at h
  exact err_of h
end Go.Proofs.YtcgknkbigbbfdaaDoor.Sel
