/- What sel.kindOf, the lets of its kinds, sel.holds and sel.Match answer of any terms and labels; of memory that was there nothing turns. -/
import Derived.Test.YtcgknkbigbbfdaaDoorSRow
import Derived.Test.YtcgknkbigbbfdaaDoorLRow
import Derived.Test.YtcgknkbigbbfdaaDoorQuiet
import Derived.Deep.QuietTactic
namespace Go.Proofs.YtcgknkbigbbfdaaDoor.Sel
open Go.RowKit Go.Proofs.YtcgknkbigbbfdaaDoor.Texts Go.Proofs.YtcgknkbigbbfdaaDoor.Word

/-- Is a text among some? -/
def among (x : ByteArray) (ts : List ByteArray) : Bool := ts.any fun y => x.toList == y.toList
theorem among_take {x y : ByteArray} {ts : List ByteArray} {k : Nat} (hy : ts[k]? = some y) (h : among x (ts.take k) = false) : among x (ts.take (k + 1)) = (x.toList == y.toList) := by
  unfold among at *
  rw [List.take_add_one, hy, List.any_append, h]
  simp
theorem among_hit {x y : ByteArray} {ts : List ByteArray} {k : Nat} (hy : ts[k]? = some y) (h : (x.toList == y.toList) = true) : among x ts = true :=
  List.any_eq_true.2 ⟨y, List.mem_of_getElem? hy, h⟩

def Indexed (x : ByteArray) (ts : List ByteArray) (w : World) (e : Ending) (w' : World) : Prop :=
  ((∃ k : Nat, e = .returned (.int .i64 k) ∧ among x ts = true) ∨ (e = .returned (.int .i64 (-1)) ∧ among x ts = false)) ∧ w' = w
set_option maxHeartbeats 1000000 in
set_option maxRecDepth 100000 in
theorem index_any (v : Value) (ts : List ByteArray) (x : ByteArray) (w : World) (hv : SRow w v ts) (hl : ts.length ≤ 4611686018427387904) :
    Calls Tryd.prog 118 #[v, .string x] w (Indexed x ts w) := by
  obtain ⟨a, cap, rfl, hcap, hm⟩ := hv.slice
  have HV := Lib.hid hv
  clear hv
  go_enter Tryd.func118, Tryd.ntmps118
  go_wp2
  go_loopw [8] (fun i wr => ∃ k : Nat, k ≤ ts.length ∧ i = .int .i64 k ∧ among x (ts.take k) = false ∧ wr = w) (fun i _ => ts.length - (intOf i).toNat)
  case atStart => exact ⟨0, Nat.zero_le _, rfl, rfl, rfl⟩
  case round =>
    obtain ⟨k, hk, rfl, hf, rfl⟩ := hrel
    have HF := Lib.hid hf
    clear hf
    by_cases hlt : k < ts.length
    · obtain ⟨g, o, rfl, hg, hcell⟩ := HV.out.cells hlt
      obtain ⟨y, hy⟩ : ∃ y, ts[k]? = some y := ⟨_, List.getElem?_eq_getElem hlt⟩
      have hc := hcell k y hy
      have HY := Lib.hid hy
      clear hy hcell
      have he : Hid ((x.toList == y.toList) = true) ∨ Hid ((x.toList == y.toList) = false) := by cases h : (x.toList == y.toList); exact .inr (Lib.hid rfl); exact .inl (Lib.hid rfl)
      rcases he with he | he
      · have h1 := he.out
        go_wp2
        go_ret
        exact ⟨.inl ⟨k, rfl, among_hit HY.out he.out⟩, rfl⟩
      · have h1 := he.out
        go_wp2
        go_roundw
        case rel => exact ⟨k + 1, by omega, by go_num, by rw [among_take HY.out HF.out]; exact he.out, trivial⟩
        case measure => simp [intOf]; omega
    · go_wp2
      go_ret
      have := HF.out
      rw [List.take_of_length_le (by omega)] at this
      exact ⟨.inr ⟨rfl, this⟩, rfl⟩

set_option maxHeartbeats 1000000 in
set_option maxRecDepth 100000 in
theorem contains_any (v : Value) (ts : List ByteArray) (x : ByteArray) (w : World) (hv : SRow w v ts) (hl : ts.length ≤ 4611686018427387904) :
    Calls Tryd.prog 117 #[v, .string x] w fun e w' => e = .returned (.bool (among x ts)) ∧ w' = w := by
  have HI := Lib.hid (index_any v ts x w hv hl)
  clear hv
  go_enter Tryd.func117, Tryd.ntmps117
  go_wp2_with fail
  refine HI.out.mono ?_
  rintro e w' ⟨⟨k, rfl, h⟩ | ⟨rfl, h⟩, rfl⟩
  · have HB := Lib.hid h
    clear h
    go_wp2
    go_ret
    exact ⟨by rw [HB.out]; rfl, rfl⟩
  · have HB := Lib.hid h
    clear h
    go_wp2
    go_ret
    exact ⟨by rw [HB.out]; rfl, rfl⟩

set_option maxHeartbeats 1000000 in
set_option maxRecDepth 100000 in
theorem lets_some (v : Value) (ts : List ByteArray) (x : ByteArray) (w : World) (hv : SRow w v ts) (hl : ts.length ≤ 4611686018427387904) :
    Calls Tryd.prog 116 #[v, .string x] w fun e w' => e = .returned (.bool (among x ts)) ∧ w' = w := by
  have HI := Lib.hid (contains_any v ts x w hv hl)
  clear hv
  go_enter Tryd.func116, Tryd.ntmps116
  go_wp2_with fail
  refine HI.out.mono ?_
  rintro e w' ⟨rfl, rfl⟩
  go_wp2
  go_ret
  exact ⟨rfl, rfl⟩
set_option maxHeartbeats 1000000 in
set_option maxRecDepth 100000 in
theorem lets_none (x : ByteArray) (w : World) :
    Calls Tryd.prog 120 #[.agg #[], .string x] w fun e w' => e = .returned (.bool true) ∧ Below w.heap.size w w' := by
  go_enter Tryd.func120, Tryd.ntmps120
  go_wp2
  go_ret
  exact ⟨rfl, (Below.refl _ _).alloc (Nat.le_refl _) _⟩

set_option maxHeartbeats 1000000 in
set_option maxRecDepth 100000 in
theorem kind_none (k : ByteArray) (n : Bool) (a : Option Addr) (cap : Nat) (w : World) :
    Calls Tryd.prog 66 #[.agg #[.string k, .bool n, .slice a 0 cap]] w fun e w' => e = .returned (.iface 115 (.agg #[])) ∧ Below w.heap.size w w' := by
  go_enter Tryd.func66, Tryd.ntmps66
  go_wp2
  go_ret
  exact ⟨rfl, (Below.refl _ _).alloc (Nat.le_refl _) _⟩
set_option maxHeartbeats 1000000 in
set_option maxRecDepth 100000 in
theorem kind_some (k : ByteArray) (n : Bool) (a : Option Addr) (m cap : Nat) (hm : 0 < m) (w : World) :
    Calls Tryd.prog 66 #[.agg #[.string k, .bool n, .slice a m cap]] w fun e w' => e = .returned (.iface 104 (.slice a m cap)) ∧ Below w.heap.size w w' := by
  have h0 : ((m : Int) == 0) = false := by simp; omega
  go_enter Tryd.func66, Tryd.ntmps66
  go_wp2
  go_ret
  exact ⟨rfl, (Below.refl _ _).alloc (Nat.le_refl _) _⟩
end Go.Proofs.YtcgknkbigbbfdaaDoor.Sel
