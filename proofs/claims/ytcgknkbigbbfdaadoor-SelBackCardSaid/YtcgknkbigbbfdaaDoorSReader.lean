/- What sel.reader's number and text take, and where they leave by a panic; of memory the reader's place alone turns. -/
import Derived.Test.YtcgknkbigbbfdaaDoorSParseV
import Derived.Test.YtcgknkbigbbfdaaDoorText
namespace Go.Proofs.YtcgknkbigbbfdaaDoor.Sel
open Go.RowKit Go.Proofs.YtcgknkbigbbfdaaDoor.Texts Go.Proofs.YtcgknkbigbbfdaaDoor.Word Go.Proofs.YtcgknkbigbbfdaaDoor.Forms Go.Proofs.YtcgknkbigbbfdaaDoor.Split Go.Proofs.YtcgknkbigbbfdaaDoor.Boxes

/-- The reader: a text and a place in it. -/
def Rd (R : Nat) (s : ByteArray) (p : Int) (w : World) : Prop := w.heap[R]? = some (.cells #[.string s, .int .i64 p] 61)
theorem Rd.below {R : Nat} {s : ByteArray} {p : Int} {w w' : World} (h : Rd R s p w) (hb : Below w.heap.size w w') : Rd R s p w' := keep h hb
theorem Rd.set {R : Nat} {s : ByteArray} {p : Int} {w : World} (h : Rd R s p w) (q : Int) : Rd R s q (w.setCell ⟨R, 1, none⟩ (.int .i64 q)) := heap_setCell_same w R 1 _ _ (.int .i64 q) h
/-- What was taken: a value, and the place behind it. -/
def Took (R : Nat) (s : ByteArray) (v : Value) (q : Int) (w : World) (e : Ending) (w' : World) : Prop := e = .returned v ∧ Rd R s q w' ∧ But R w w'

set_option maxHeartbeats 1000000 in
set_option maxRecDepth 100000 in
theorem number_yes (R : Nat) (s : ByteArray) (hs : s.size ≤ 9223372036854775807) (p : Int) (most u n : Nat) (h : Wire.getV s.data.toList p = some (u, n)) (hu : u ≤ most) (hm : most ≤ 9) (w : World) (hr : Rd R s p w) :
    Calls Tryd.prog 29 #[.pointer (some ⟨R, 0, none⟩), .int .u64 (most : Int)] w (Took R s (.int .i64 (u : Int)) (n : Int) w) := by
  have HG : Hid (∀ W, Calls Tryd.prog 52 #[.string s, .int .i64 p] W fun e w' => e = .returned (.tuple #[.int .u64 (u : Int), .int .i64 (n : Int), .bool true]) ∧ Below W.heap.size W w') := Lib.hid fun W => Wire.get_yes s hs p u n h W
  have hR := lt_of hr
  have q0 := Quiet.cell (a := ⟨R, 0, none⟩) hR (cell_at (i := 0) hr rfl)
  have q1 := Quiet.cell (a := ⟨R, 1, none⟩) hR (cell_at (i := 1) hr rfl)
  have HR := Lib.hid hr
  have hz : ¬ (most : Int) < (u : Int) := by omega
  have hz2 : ¬ most < u := by omega
  have hz3 : decide (most < u) = false := decide_eq_false hz2
  have hz4 : decide ((most : Int) < (u : Int)) = false := decide_eq_false hz
  have hwr : IntKind.i64.wrap (u : Int) = (u : Int) := by rw [IntKind.wrap_i64]; omega
  clear h hr
  go_enter Tryd.func29, Tryd.ntmps29
  go_wp2_with fail
  refine Quiet.region (by kernel_rfl) (by kernel_rfl) ?_
  repeat (go_big_quiet_step (first | (go_at_call 52; (with_reducible exact Quiet.calls (HG.out _)))))
  refine wpQuiet_nil ?_
  rintro _ ⟨pq, rfl⟩
  have hq := pq.below
  generalize pq.world = wq at hq ⊢
  have hr2 := HR.out.below hq
  have c1 := cell_at (i := 1) hr2 rfl
  have f1 := frozen_at (i := 1) hr2
  have HR2 := Lib.hid (hr2.set (n : Int))
  clear hr2 q0 q1
  go_wp2
  go_ret
  exact ⟨rfl, HR2.out, (But.of_below hq).set 1 _⟩
set_option maxHeartbeats 1000000 in
set_option maxRecDepth 100000 in
theorem number_none (R : Nat) (s : ByteArray) (hs : s.size ≤ 9223372036854775807) (p : Int) (most : Nat) (h : Wire.getV s.data.toList p = none) (w : World) (hr : Rd R s p w) (hE : Err w) :
    Calls Tryd.prog 29 #[.pointer (some ⟨R, 0, none⟩), .int .u64 (most : Int)] w fun e w' => Falls e ∧ Below w.heap.size w w' := by
  have HG : Hid (∀ W, Calls Tryd.prog 52 #[.string s, .int .i64 p] W fun e w' => e = .returned (.tuple #[.int .u64 0, .int .i64 0, .bool false]) ∧ Below W.heap.size W w') := Lib.hid fun W => Wire.get_no s hs p h W
  have hR := lt_of hr
  have q0 := Quiet.cell (a := ⟨R, 0, none⟩) hR (cell_at (i := 0) hr rfl)
  have q1 := Quiet.cell (a := ⟨R, 1, none⟩) hR (cell_at (i := 1) hr rfl)
  have HE : Hid (∀ W, Below w.heap.size w W → Err W) := Lib.hid fun W h => hE.below h
  clear h hr hE
  go_enter Tryd.func29, Tryd.ntmps29
  go_wp2_with fail
  refine Quiet.region (by kernel_rfl) (by kernel_rfl) ?_
  repeat (go_big_quiet_step (first | (go_at_call 52; (with_reducible exact Quiet.calls (HG.out _)))))
  refine wpQuiet_nil ?_
  rintro _ ⟨pq, rfl⟩
  have hq := pq.below
  generalize pq.world = wq at hq ⊢
  obtain ⟨T, pe, hc⟩ := HE.out _ hq
  clear q0 q1
  go_wp2
  exact ⟨rfl, ⟨T, pe, rfl⟩, hq⟩
set_option maxHeartbeats 1000000 in
set_option maxRecDepth 100000 in
theorem number_great (R : Nat) (s : ByteArray) (hs : s.size ≤ 9223372036854775807) (p : Int) (most u n : Nat) (h : Wire.getV s.data.toList p = some (u, n)) (hu : most < u) (w : World) (hr : Rd R s p w) (hE : Err w) :
    Calls Tryd.prog 29 #[.pointer (some ⟨R, 0, none⟩), .int .u64 (most : Int)] w fun e w' => Falls e ∧ Below w.heap.size w w' := by
  have HG : Hid (∀ W, Calls Tryd.prog 52 #[.string s, .int .i64 p] W fun e w' => e = .returned (.tuple #[.int .u64 (u : Int), .int .i64 (n : Int), .bool true]) ∧ Below W.heap.size W w') := Lib.hid fun W => Wire.get_yes s hs p u n h W
  have hR := lt_of hr
  have q0 := Quiet.cell (a := ⟨R, 0, none⟩) hR (cell_at (i := 0) hr rfl)
  have q1 := Quiet.cell (a := ⟨R, 1, none⟩) hR (cell_at (i := 1) hr rfl)
  have hz : (most : Int) < (u : Int) := by omega
  have hz3 : decide (most < u) = true := decide_eq_true hu
  have hz4 : decide ((most : Int) < (u : Int)) = true := decide_eq_true hz
  have HE : Hid (∀ W, Below w.heap.size w W → Err W) := Lib.hid fun W h => hE.below h
  clear h hr hE
  go_enter Tryd.func29, Tryd.ntmps29
  go_wp2_with fail
  refine Quiet.region (by kernel_rfl) (by kernel_rfl) ?_
  repeat (go_big_quiet_step (first | (go_at_call 52; (with_reducible exact Quiet.calls (HG.out _)))))
  refine wpQuiet_nil ?_
  rintro _ ⟨pq, rfl⟩
  have hq := pq.below
  generalize pq.world = wq at hq ⊢
  obtain ⟨T, pe, hc⟩ := HE.out _ hq
  clear q0 q1
  go_wp2
  exact ⟨rfl, ⟨T, pe, rfl⟩, hq⟩
end Go.Proofs.YtcgknkbigbbfdaaDoor.Sel
