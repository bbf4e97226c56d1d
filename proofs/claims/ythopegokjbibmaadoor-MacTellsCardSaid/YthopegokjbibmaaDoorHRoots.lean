/- From what the rows list to what the walks ask: the package's two tables are there. -/
import Derived.Test.YthopegokjbibmaaDoorHMix
import Derived.Test.YthopegokjbibmaaDoorRows
import Derived.Test.YthopegokjbibmaaDoorTie
import Derived.Test.YthopegokjbibmaaDoorCards
import Derived.OpenShut
import Derived.Lib.LaidU8
import Derived.LaidMore
namespace Go.Proofs.YthopegokjbibmaaDoor.Sha
open Go.RowKit

theorem cells35 : Tryd.prog.cellsOf 79 = 1 := by kernel_rfl
theorem array_words {W : World} {t : TypeId} {n fuel : Nat} {cs : List Value} {l : List Nat} {p : List MemPlace} (ht : Tryd.prog.underlying t = some (.array n 79)) (hc : Tryd.prog.cellsOf t = n)
    (h : DataW.trod (fun _ => ()) Tryd.prog W 0 (fun _ => true) false fuel t cs = some (.agg (l.map fun m : Nat => .lit (.int .u32 (m : Int))), p)) : cs = words l := by
  obtain ⟨xs, m, rfl, hx, hl, hn, hi⟩ := DataW.trod_array ht h
  have hxs : xs.map (·.1) = l.map fun m : Nat => (.lit (.int .u32 (m : Int)) : DataW Unit) := by
    have := congrArg Prod.fst hx
    simpa using this.symm
  have hll : l.length = n := by have := congrArg List.length hxs; simp at this; omega
  apply List.ext_getElem?
  intro i
  by_cases hin : i < n
  · have h1 := hi i hin
    rw [List.getElem?_eq_getElem (by omega), cells35, Nat.mul_one] at h1
    obtain ⟨k, h2, h3, _⟩ := DataW.trod_int Tryd.underlying79 h1
    have h4 : (xs.map (·.1))[i]? = some (.lit (.int .u32 k)) := by
      rw [List.getElem?_map, List.getElem?_eq_getElem (by omega), Option.map_some, h3]
    rw [hxs, List.getElem?_map, List.getElem?_eq_getElem (by omega), Option.map_some] at h4
    have h5 : (l[i]'(by omega) : Int) = k := by
      injection h4 with h4
      injection h4 with h4
      injection h4
    have h6 : cs[i]? = some (.int .u32 k) := by
      have := congrArg (fun l => l[0]?) h2
      simpa using this
    rw [h6, ← h5]
    simp [words, show i < l.length by omega]
  · rw [List.getElem?_eq_none (by omega), List.getElem?_eq_none (by rw [words_len]; omega)]
theorem var_heap {W : World} {n : String} {g : Nat} {cs : Array Value} (hg : Tryd.prog.globalNamed n = some g) (h : W.var? Tryd.prog n = some cs) : ∃ t fr, W.heap[g]? = some (.cells cs t fr) := by
  simp only [World.var?, hg, Option.bind_some] at h
  split at h
  · rename_i heq
    injection h with h
    subst h
    exact ⟨_, _, heq⟩
  · cases h
theorem sqNamed : Tryd.prog.globalNamed "demesne/sha.squareRoots" = some 0 := by kernel_rfl
theorem sqType : (Tryd.prog.globals[0]?).map (·.type) = some 80 := by kernel_rfl
theorem cuNamed : Tryd.prog.globalNamed "demesne/sha.cubeRoots" = some 1 := by kernel_rfl
theorem cuType : (Tryd.prog.globals[1]?).map (·.type) = some 96 := by kernel_rfl
theorem cells36 : Tryd.prog.cellsOf 80 = 8 := by kernel_rfl
theorem cells46 : Tryd.prog.cellsOf 96 = 64 := by kernel_rfl
theorem sq_data : (Rows.laid_demesne_sha_squareRoots : DataW Unit) = .agg (squares.list.map fun m : Nat => .lit (.int .u32 (m : Int))) := rfl
theorem cu_data : (Rows.laid_demesne_sha_cubeRoots : DataW Unit) = .agg (cubes.map fun m : Nat => .lit (.int .u32 (m : Int))) := rfl
theorem roots_of {W : World} (h : laidMet Tryd.prog [("demesne/sha.squareRoots", Rows.laid_demesne_sha_squareRoots), ("demesne/sha.cubeRoots", Rows.laid_demesne_sha_cubeRoots)] W) : Roots W := by
  obtain ⟨g, t, cs, fuel, p, h1, h2, h3, h4⟩ := Lib.laidMet.reads h (.head _)
  obtain ⟨g', t', cs', fuel', p', k1, k2, k3, k4⟩ := Lib.laidMet.reads h (.tail _ (.head _))
  obtain rfl := Option.some.inj (sqNamed.symm.trans h1)
  obtain rfl := Option.some.inj (sqType.symm.trans h2)
  obtain rfl := Option.some.inj (cuNamed.symm.trans k1)
  obtain rfl := Option.some.inj (cuType.symm.trans k2)
  rw [sq_data] at h4
  rw [cu_data] at k4
  have e1 := array_words Tryd.underlying80 cells36 h4
  have e2 := array_words Tryd.underlying96 cells46 k4
  obtain ⟨t1, f1, m1⟩ := var_heap h1 h3
  obtain ⟨t2, f2, m2⟩ := var_heap k1 k3
  have e1' : cs = (words squares.list).toArray := by rw [← e1, Array.toArray_toList]
  have e2' : cs' = (words cubes).toArray := by rw [← e2, Array.toArray_toList]
  subst e1' e2'
  exact ⟨⟨t1, f1, m1⟩, t2, f2, m2⟩
theorem roots_met {W : World} (hp : ([("demesne/sha.squareRoots", (Rows.laid_demesne_sha_squareRoots : DataW Unit)), ("demesne/sha.cubeRoots", Rows.laid_demesne_sha_cubeRoots)].all fun x => x.2.handleName?.isNone) = true) (h : laidMetH Tryd.prog [("demesne/sha.squareRoots", Rows.laid_demesne_sha_squareRoots), ("demesne/sha.cubeRoots", Rows.laid_demesne_sha_cubeRoots)] W) : Roots W := by
  rw [MakeChecks.laidMetH_plain _ _ _ hp] at h
  exact roots_of h
end Go.Proofs.YthopegokjbibmaaDoor.Sha
