import Derived.Test.YtcgknkbigbbfdaaDoorSParseV
import Derived.Test.YtcgknkbigbbfdaaDoorText
import Derived.RegionDies
/- What sel.reader's number and text take, and where they leave by a panic; of memory the reader's place alone turns. -/
namespace Go.Proofs.YtcgknkbigbbfdaaDoor.Sel
open Go.RowKit Go.Proofs.YtcgknkbigbbfdaaDoor.Texts Go.Proofs.YtcgknkbigbbfdaaDoor.Word Go.Proofs.YtcgknkbigbbfdaaDoor.Forms Go.Proofs.YtcgknkbigbbfdaaDoor.Split Go.Proofs.YtcgknkbigbbfdaaDoor.Boxes

/-- The reader: a text and a place in it. -/
def Rd (R : Nat) (s : ByteArray) (p : Int) (w : World) : Prop := w.heap[R]? = some (.cells #[.string s, .int .i64 p] 61)
theorem Rd.below {R : Nat} {s : ByteArray} {p : Int} {w w' : World} (h : Rd R s p w) (hb : Below w.heap.size w w') : Rd R s p w' := keep h hb
theorem Rd.set {R : Nat} {s : ByteArray} {p : Int} {w : World} (h : Rd R s p w) (q : Int) : Rd R s q (w.setCell ⟨R, 1, none⟩ (.int .i64 q)) := heap_setCell_same w R 1 _ _ (.int .i64 q) h
/-- What was taken: a value, and the place behind it. -/
def Took (R : Nat) (s : ByteArray) (v : Value) (q : Int) (w : World) (e : Ending) (w' : World) : Prop := e = .returned v ∧ Rd R s q w' ∧ But R w w'

set_option maxHeartbeats 1000000 in
set_option maxRecDepth 100000 in
theorem number_yes (R : Nat) (s : ByteArray) (hs : s.size ≤ 9223372036854775807) (p : Int) (most u n : Nat) (h : Wire.getV s.data.toList p = some (u, n)) (hu : u ≤ most) (hm : most ≤ 9) (w : World) (hr : Rd R s p w) :
    Calls Tryd.prog 29 #[.pointer (some ⟨R, 0, none⟩), .int .u64 (most : Int)] w (Took R s (.int .i64 (u : Int)) (n : Int) w) := by
  have HG : Hid (∀ W, Calls Tryd.prog 52 #[.string s, .int .i64 p] W fun e w' => e = .returned (.tuple #[.int .u64 (u : Int), .int .i64 (n : Int), .bool true]) ∧ Below W.heap.size W w') := Lib.hid fun W => Wire.get_yes s hs p u n h W
  have hR := lt_of hr
  have q0 := Quiet.cell (a := ⟨R, 0, none⟩) hR (cell_at (i := 0) hr rfl)
  have q1 := Quiet.cell (a := ⟨R, 1, none⟩) hR (cell_at (i := 1) hr rfl)
  have HR := Lib.hid hr
  have hz : ¬ (most : Int) < (u : Int) := by omega
  have hz2 : ¬ most < u := by omega
  have hz3 : decide (most < u) = false := decide_eq_false hz2
  have hz4 : decide ((most : Int) < (u : Int)) = false := decide_eq_false hz
  have hwr : IntKind.i64.wrap (u : Int) = (u : Int) := by rw [IntKind.wrap_i64]; omega
  clear h hr
  go_enter Tryd.func29, Tryd.ntmps29
  go_wp2_with fail
  refine Quiet.region (by kernel_rfl) (by kernel_rfl) ?_
  repeat (go_big_quiet_step (first | (go_at_call 52; (with_reducible exact Quiet.calls (HG.out _)))))
  refine wpQuiet_nil ?_
  rintro _ ⟨pq, rfl⟩
  have hq := pq.below
  generalize pq.world = wq at hq ⊢
  have hr2 := HR.out.below hq
  have c1 := cell_at (i := 1) hr2 rfl
  have f1 := frozen_at (i := 1) hr2
  have HR2 := Lib.hid (hr2.set (n : Int))
  clear hr2 q0 q1
  go_wp2
  go_ret
  exact ⟨rfl, HR2.out, (But.of_below hq).set 1 _⟩
set_option maxHeartbeats 1000000 in
set_option maxRecDepth 100000 in
theorem number_none (R : Nat) (s : ByteArray) (hs : s.size ≤ 9223372036854775807) (p : Int) (most : Nat) (h : Wire.getV s.data.toList p = none) (w : World) (hr : Rd R s p w) (hE : Err w) :
    Calls Tryd.prog 29 #[.pointer (some ⟨R, 0, none⟩), .int .u64 (most : Int)] w fun e w' => Falls e ∧ Below w.heap.size w w' := by
  have HG : Hid (∀ W, Calls Tryd.prog 52 #[.string s, .int .i64 p] W fun e w' => e = .returned (.tuple #[.int .u64 0, .int .i64 0, .bool false]) ∧ Below W.heap.size W w') := Lib.hid fun W => Wire.get_no s hs p h W
  have hR := lt_of hr
  have q0 := Quiet.cell (a := ⟨R, 0, none⟩) hR (cell_at (i := 0) hr rfl)
  have q1 := Quiet.cell (a := ⟨R, 1, none⟩) hR (cell_at (i := 1) hr rfl)
  have HE : Hid (∀ W, Below w.heap.size w W → Err W) := Lib.hid fun W h => hE.below h
  clear h hr hE
  go_enter Tryd.func29, Tryd.ntmps29
  go_wp2_with fail
  refine Quiet.region (by kernel_rfl) (by kernel_rfl) ?_
  repeat (go_big_quiet_step (first | (go_at_call 52; (with_reducible exact Quiet.calls (HG.out _)))))
  refine wpQuiet_nil ?_
  rintro _ ⟨pq, rfl⟩
  have hq := pq.below
  generalize pq.world = wq at hq ⊢
  obtain ⟨T, pe, hc⟩ := HE.out _ hq
  clear q0 q1
  go_wp2
  exact ⟨rfl, ⟨T, pe, rfl⟩, hq⟩
set_option maxHeartbeats 1000000 in
set_option maxRecDepth 100000 in
theorem number_great (R : Nat) (s : ByteArray) (hs : s.size ≤ 9223372036854775807) (p : Int) (most u n : Nat) (h : Wire.getV s.data.toList p = some (u, n)) (hu : most < u) (w : World) (hr : Rd R s p w) (hE : Err w) :
    Calls Tryd.prog 29 #[.pointer (some ⟨R, 0, none⟩), .int .u64 (most : Int)] w fun e w' => Falls e ∧ Below w.heap.size w w' := by
  have HG : Hid (∀ W, Calls Tryd.prog 52 #[.string s, .int .i64 p] W fun e w' => e = .returned (.tuple #[.int .u64 (u : Int), .int .i64 (n : Int), .bool true]) ∧ Below W.heap.size W w') := Lib.hid fun W => Wire.get_yes s hs p u n h W
  have hR := lt_of hr
  have q0 := Quiet.cell (a := ⟨R, 0, none⟩) hR (cell_at (i := 0) hr rfl)
  have q1 := Quiet.cell (a := ⟨R, 1, none⟩) hR (cell_at (i := 1) hr rfl)
  have hz : (most : Int) < (u : Int) := by omega
  have hz3 : decide (most < u) = true := decide_eq_true hu
  have hz4 : decide ((most : Int) < (u : Int)) = true := decide_eq_true hz
  have HE : Hid (∀ W, Below w.heap.size w W → Err W) := Lib.hid fun W h => hE.below h
  clear h hr hE
  go_enter Tryd.func29, Tryd.ntmps29
  go_wp2_with fail
  refine Quiet.region (by kernel_rfl) (by kernel_rfl) ?_
  repeat (go_big_quiet_step (first | (go_at_call 52; (with_reducible exact Quiet.calls (HG.out _)))))
  refine wpQuiet_nil ?_
  rintro _ ⟨pq, rfl⟩
  have hq := pq.below
  generalize pq.world = wq at hq ⊢
  obtain ⟨T, pe, hc⟩ := HE.out _ hq
  clear q0 q1
  go_wp2
  exact ⟨rfl, ⟨T, pe, rfl⟩, hq⟩
end Go.Proofs.YtcgknkbigbbfdaaDoor.Sel

/- What sel.reader's text takes; of memory the reader's place alone turns. -/
namespace Go.Proofs.YtcgknkbigbbfdaaDoor.Sel
open Go.RowKit Go.Proofs.YtcgknkbigbbfdaaDoor.Texts Go.Proofs.YtcgknkbigbbfdaaDoor.Word Go.Proofs.YtcgknkbigbbfdaaDoor.Forms Go.Proofs.YtcgknkbigbbfdaaDoor.Split Go.Proofs.YtcgknkbigbbfdaaDoor.Boxes

set_option maxHeartbeats 1000000 in
set_option maxRecDepth 100000 in
theorem take_yes (R : Nat) (s : ByteArray) (hs : s.size ≤ 9223372036854775807) (p : Int) (t : ByteArray) (q : Int) (h : oneText s p = some (t, q)) (w : World) (hr : Rd R s p w) :
    Calls Tryd.prog 53 #[.pointer (some ⟨R, 0, none⟩)] w (Took R s (.string t) q w) := by
  have HG : Hid (∀ W, Calls Tryd.prog 74 #[.string s, .int .i64 p, .int .i64 32] W fun e w' => e = .returned (.tuple #[.string t, .int .i64 q, .bool true]) ∧ Below W.heap.size W w') := Lib.hid fun W => by
    unfold oneText at h
    split at h
    · simp at h
    rename_i a ha
    simp only [Option.some.injEq, Prod.mk.injEq] at h
    rw [← h.1, ← h.2]
    exact Wire.text_yes s hs p 32 (by omega) a.1 a.2 ha W
  have hR := lt_of hr
  have q0 := Quiet.cell (a := ⟨R, 0, none⟩) hR (cell_at (i := 0) hr rfl)
  have q1 := Quiet.cell (a := ⟨R, 1, none⟩) hR (cell_at (i := 1) hr rfl)
  have HR := Lib.hid hr
  clear h hr
  go_enter Tryd.func53, Tryd.ntmps53
  go_wp2_with fail
  refine Quiet.region (by kernel_rfl) (by kernel_rfl) ?_
  repeat (go_big_quiet_step (first | (go_at_call 74; (with_reducible exact Quiet.calls (HG.out _)))))
  refine wpQuiet_nil ?_
  rintro _ ⟨pq, rfl⟩
  have hq := pq.below
  generalize pq.world = wq at hq ⊢
  have hr2 := HR.out.below hq
  have c1 := cell_at (i := 1) hr2 rfl
  have f1 := frozen_at (i := 1) hr2
  have HR2 := Lib.hid (hr2.set q)
  clear hr2 q0 q1
  go_wp2
  go_ret
  exact ⟨rfl, HR2.out, (But.of_below hq).set 1 _⟩
set_option maxHeartbeats 1000000 in
set_option maxRecDepth 100000 in
theorem take_no (R : Nat) (s : ByteArray) (hs : s.size ≤ 9223372036854775807) (p : Int) (h : oneText s p = none) (w : World) (hr : Rd R s p w) (hE : Err w) :
    Calls Tryd.prog 53 #[.pointer (some ⟨R, 0, none⟩)] w fun e w' => Falls e ∧ Below w.heap.size w w' := by
  have HG : Hid (∀ W, Calls Tryd.prog 74 #[.string s, .int .i64 p, .int .i64 32] W fun e w' => e = .returned (.tuple #[.string ⟨#[]⟩, .int .i64 0, .bool false]) ∧ Below W.heap.size W w') := Lib.hid fun W => by
    unfold oneText at h
    split at h
    · rename_i ha
      exact Wire.text_no s hs p 32 (by omega) ha W
    · simp at h
  have hR := lt_of hr
  have q0 := Quiet.cell (a := ⟨R, 0, none⟩) hR (cell_at (i := 0) hr rfl)
  have q1 := Quiet.cell (a := ⟨R, 1, none⟩) hR (cell_at (i := 1) hr rfl)
  have HE : Hid (∀ W, Below w.heap.size w W → Err W) := Lib.hid fun W h => hE.below h
  clear h hr hE
  go_enter Tryd.func53, Tryd.ntmps53
  go_wp2_with fail
  refine Quiet.region (by kernel_rfl) (by kernel_rfl) ?_
  repeat (go_big_quiet_step (first | (go_at_call 74; (with_reducible exact Quiet.calls (HG.out _)))))
  refine wpQuiet_nil ?_
  rintro _ ⟨pq, rfl⟩
  have hq := pq.below
  generalize pq.world = wq at hq ⊢
  obtain ⟨T, pe, hc⟩ := HE.out _ hq
  clear q0 q1
  go_wp2
  exact ⟨rfl, ⟨T, pe, rfl⟩, hq⟩

/-- The right term that stands at a place. -/
def oneR (s : ByteArray) (p : Int) : Option (Tm × Int) := match oneT s p with
  | none => none
  | some x => if rightT x.1 = true then some x else none
/-- What is told of a term that was taken, or of none. -/
def TookT (R : Nat) (s : ByteArray) (r : Option (Tm × Int)) (w : World) (e : Ending) (w' : World) : Prop := match r with
  | none => Falls e ∧ But R w w'
  | some x => (∃ v, e = .returned v ∧ TNew w.heap.size w' v x.1) ∧ Rd R s x.2 w' ∧ But R w w'

theorem Err.but {R : Nat} {w w' : World} (h : Err w) (hb : But R w w') (hR : 0 ≠ R) : Err w' := by
  obtain ⟨T, p, h⟩ := h
  have hl := World.block_lt_of_cell? w ⟨0, 0, none⟩ h
  exact ⟨T, p, (hb.cell (a := ⟨0, 0, none⟩) hl (by exact hR)).trans h⟩

set_option maxHeartbeats 1000000 in
set_option maxRecDepth 100000 in
theorem term_a (R : Nat) (s : ByteArray) (hs : s.size ≤ 9223372036854775807) (p : Int) (h : oneText s p = none) (w : World) (hr : Rd R s p w) (hE : Err w) :
    Calls Tryd.prog 30 #[.pointer (some ⟨R, 0, none⟩)] w fun e w' => Falls e ∧ But R w w' := by
  have HT : Hid (∀ W, Below w.heap.size w W → Calls Tryd.prog 53 #[.pointer (some ⟨R, 0, none⟩)] W fun e w' => Falls e ∧ Below W.heap.size W w') := Lib.hid fun W hb => take_no R s hs p h W (hr.below hb) (hE.below hb)
  clear h hr hE
  go_enter Tryd.func30, Tryd.ntmps30
  go_wp2_with fail
  with_reducible refine (HT.out _ (grew w _)).mono ?_
  rintro e w1 ⟨⟨T, p3, rfl⟩, hb1⟩
  go_wp2
  exact ⟨rfl, ⟨T, p3, rfl⟩, But.of_below (grows (grew w _) hb1)⟩
set_option maxHeartbeats 1000000 in
set_option maxRecDepth 100000 in
theorem term_b (R : Nat) (s : ByteArray) (hs : s.size ≤ 9223372036854775807) (p : Int) (k : ByteArray) (q1 : Int) (h : oneText s p = some (k, q1)) (w : World) (hr : Rd R s p w) (hE : Err w) (hgR : 0 ≠ R)
    (HN : Hid (∀ W, Rd R s q1 W → Err W → Calls Tryd.prog 29 #[.pointer (some ⟨R, 0, none⟩), .int .u64 9] W fun e w' => Falls e ∧ Below W.heap.size W w')) :
    Calls Tryd.prog 30 #[.pointer (some ⟨R, 0, none⟩)] w fun e w' => Falls e ∧ But R w w' := by
  have HT : Hid (∀ W, Below w.heap.size w W → Calls Tryd.prog 53 #[.pointer (some ⟨R, 0, none⟩)] W (Took R s (.string k) q1 W)) := Lib.hid fun W hb => take_yes R s hs p k q1 h W (hr.below hb)
  have HE : Hid (∀ W, But R w W → Err W) := Lib.hid fun W h => hE.but h hgR
  clear h hr hE
  go_enter Tryd.func30, Tryd.ntmps30
  go_wp2_with fail
  with_reducible refine (HT.out _ (grew w _)).mono ?_
  rintro e w1 ⟨rfl, hr1, hb1⟩
  have HR1 := Lib.hid hr1
  have hb2 : But R w (w1.alloc (.cells #[.string k, .bool false, .slice none 0 0] 51)) := ((But.of_below (grew w _)).trans hb1).trans (But.of_below (old w1 _))
  clear hr1 hb1
  go_wp2_with fail
  with_reducible refine (HN.out _ (HR1.out.below (old w1 _)) (HE.out _ hb2)).mono ?_
  rintro e w3 ⟨⟨T, p3, rfl⟩, hb3⟩
  go_wp2
  exact ⟨rfl, ⟨T, p3, rfl⟩, hb2.trans (But.of_below hb3)⟩
end Go.Proofs.YtcgknkbigbbfdaaDoor.Sel

/- What sel.reader's term takes: the right term that stands there, or it leaves by a panic; of memory the reader's place alone turns. -/
namespace Go.Proofs.YtcgknkbigbbfdaaDoor.Sel
open Go.RowKit Go.Proofs.YtcgknkbigbbfdaaDoor.Texts Go.Proofs.YtcgknkbigbbfdaaDoor.Word Go.Proofs.YtcgknkbigbbfdaaDoor.Forms Go.Proofs.YtcgknkbigbbfdaaDoor.Split Go.Proofs.YtcgknkbigbbfdaaDoor.Boxes

/-- What the values tell of a term whose key and number are read. -/
def valued (k : ByteArray) (b : Bool) (r : Option (List ByteArray × Int)) : Option (Tm × Int) := match r with
  | none => none
  | some vs => if rightT (k, b, vs.1) = true then some ((k, b, vs.1), vs.2) else none
set_option maxHeartbeats 4000000 in
set_option maxRecDepth 100000 in
theorem term_c (R : Nat) (s : ByteArray) (hs : s.size ≤ 9223372036854775807) (p : Int) (k : ByteArray) (q1 : Int) (n m : Nat) (b : Bool) (q2 : Int) (hn : n ≤ 9) (hb0 : b = decide (n % 2 = 1)) (hm0 : m = n / 2) (h : oneText s p = some (k, q1)) (w : World) (hr : Rd R s p w) (hE : Err w) (hgR : 0 ≠ R)
    (HN : Hid (∀ W, Rd R s q1 W → Calls Tryd.prog 29 #[.pointer (some ⟨R, 0, none⟩), .int .u64 9] W (Took R s (.int .i64 (n : Int)) q2 W))) :
    Calls Tryd.prog 30 #[.pointer (some ⟨R, 0, none⟩)] w (TookT R s (valued k b (readN (oneText s) m q2)) w) := by
  obtain ⟨i0, hi, hz0, hz1, hz2⟩ := info_parts infoS
  have HT : Hid (∀ W, Below w.heap.size w W → Calls Tryd.prog 53 #[.pointer (some ⟨R, 0, none⟩)] W (Took R s (.string k) q1 W)) := Lib.hid fun W hb => take_yes R s hs p k q1 h W (hr.below hb)
  have HE : Hid (∀ W, But R w W → Err W) := Lib.hid fun W h => hE.but h hgR
  have hRw := lt_of hr
  have hrem : ((n : Int) % 2 == 1) = b := by rw [hb0, Bool.eq_iff_iff, beq_iff_eq, decide_eq_true_eq]; omega
  have hquo : (n : Int) / 2 = (m : Int) := by omega
  have hm4 : m ≤ 4 := by omega
  clear h hr hE hb0 hm0
  go_enter Tryd.func30, Tryd.ntmps30
  go_wp2_with fail
  with_reducible refine (HT.out _ (grew w _)).mono ?_
  rintro e w1 ⟨rfl, hr1, hb1⟩
  have HR1 := Lib.hid hr1
  have hsz1 := hb1.size
  rw [size_alloc] at hsz1
  have hA1 := hb1.keep (fresh w _) (by omega)
  clear hr1
  go_wp2_with fail
  with_reducible refine (HN.out _ (HR1.out.below (old w1 _))).mono ?_
  rintro e w3 ⟨rfl, hr3, hb3⟩
  have hT3 := hb3.keep (fresh w1 _) (by omega)
  have hA3 := hb3.keep (keep hA1 (old w1 _)) (by omega)
  have hsz3 := hb3.size
  rw [size_alloc] at hsz3
  have c1 := cell_at (i := 1) hT3 rfl
  have f1 := frozen_at (i := 1) hT3
  have HB3 : Hid (But R w (w3.setCell ⟨w1.heap.size, 1, none⟩ (.bool b))) := Lib.hid (((((But.of_below (grew w _)).trans hb1).trans (But.of_below (old w1 _))).trans hb3).more ((Below.refl _ _).setCell (by show w.heap.size ≤ w1.heap.size; omega) _))
  have HT4 : Hid ((w3.setCell ⟨w1.heap.size, 1, none⟩ (.bool b)).heap[w1.heap.size]? = some (.cells #[.string k, .bool b, .slice none 0 0] 51)) := Lib.hid (heap_setCell_same _ _ 1 _ _ (.bool b) hT3)
  have HA4 := Lib.hid ((heap_setCell_other w3 ⟨w1.heap.size, 1, none⟩ w.heap.size (.bool b) (by simp; omega)).trans hA3)
  have HR4 : Hid (Rd R s q2 (w3.setCell ⟨w1.heap.size, 1, none⟩ (.bool b))) := Lib.hid ((heap_setCell_other w3 ⟨w1.heap.size, 1, none⟩ R (.bool b) (by simp; omega)).trans hr3)
  have hS4 : w1.heap.size + 1 ≤ (w3.setCell ⟨w1.heap.size, 1, none⟩ (.bool b)).heap.size := by simpa using hsz3
  obtain ⟨T, hTe⟩ : ∃ T, T = w1.heap.size := ⟨_, rfl⟩
  have hHT : w.heap.size < T := by omega
  clear hr3 hb3 hT3 hA3 hA1 hb1
  go_wp2_with fail
  go_loopw [16] (fun i wr => ∃ (j : Nat) (done : List ByteArray) (q : Int) (v : Value), j ≤ m ∧ i = .int .i64 j ∧ done.length = j ∧ Forms.ahead done (readN (oneText s) (m - j) q) = readN (oneText s) m q2 ∧ Rd R s q wr ∧ wr.heap[w1.heap.size]? = some (.cells #[.string k, .bool b, v] 51) ∧
    wr.heap[w.heap.size]? = some (.cells #[.string ⟨#[]⟩, .bool false, .slice none 0 0] 51) ∧ wr.ownsRow (w1.heap.size + 1) 9 1 v j (svals done) ∧ But R w wr ∧ w1.heap.size + 1 ≤ wr.heap.size) (fun i _ => m - (intOf i).toNat)
  case atStart => exact ⟨0, [], q2, _, Nat.zero_le _, rfl, rfl, ahead_nil _, HR4.out, HT4.out, HA4.out, World.ownsRow_nil _ _ _ _, HB3.out, hS4⟩
  case round =>
    obtain ⟨j, done, q, v, hj, rfl, hdl, hrd, hr, ht, ha, hown, hb, hBr⟩ := hrel
    have HD := Lib.hid hdl
    have HRD := Lib.hid hrd
    have HR := Lib.hid hr
    have HTT := Lib.hid ht
    have HA := Lib.hid ha
    have HOw := Lib.hid hown
    have hvf : ∃ va vn vc, v = .slice va vn vc := by
      rcases hown.2 with ⟨h, _⟩ | ⟨g, cap, cur, h, _⟩
      · exact ⟨_, _, _, h⟩
      · exact ⟨_, _, _, h⟩
    obtain ⟨va, vn, vc, rfl⟩ := hvf
    obtain ⟨c0, c1, c2, f0, f1, f2⟩ := cells3 ht
    have hltT := lt_of ht
    by_cases hlt : j < m
    · have hltz : (j : Int) < (m : Int) := by omega
      cases hone : oneText s q with
      | some x =>
        obtain ⟨x, q'⟩ := x
        have HX : Hid (∀ W, Below wr.heap.size wr W → Calls Tryd.prog 53 #[.pointer (some ⟨R, 0, none⟩)] W (Took R s (.string x) q' W)) := Lib.hid fun W h => take_yes R s hs q x q' hone W (HR.out.below h)
        have HRD2 : Hid (Forms.ahead (done ++ [x]) (readN (oneText s) (m - (j + 1)) q') = readN (oneText s) m q2) := Lib.hid (by rw [← HRD.out, show m - j = (m - (j + 1)) + 1 by omega, readN_go hone])
        have HMax : Hid (j + 1 ≤ maxLen ∧ (j + 1) * 16 ≤ 140737488355328) := Lib.hid (by unfold maxLen; omega)
        have HKeep : Hid (∀ W, But R wr W → W.cell? ⟨w1.heap.size, 2, none⟩ = some (.slice va vn vc) ∧ W.frozen? ⟨w1.heap.size, 2, none⟩ = false) := Lib.hid fun W h => ⟨cell_at (i := 2) (h.keep ht (by omega)) rfl, frozen_at (i := 2) (h.keep ht (by omega))⟩
        have HKeep4 : Hid (∀ W W' o, But R wr W → (W.alloc o).grownBy W' (Value.slice va vn vc).ownBlock → W'.cell? ⟨w1.heap.size, 2, none⟩ = some (.slice va vn vc) ∧ W'.frozen? ⟨w1.heap.size, 2, none⟩ = false) := Lib.hid fun W W' o h hg => by
          have h3 := keep (h.keep ht (by omega)) (old W o)
          have h4 : W'.heap[w1.heap.size]? = some (.cells #[.string k, .bool b, .slice va vn vc] 51) := (hg.block _ (lt_of h3) (fun e => by have := HOw.out.lt _ e.symm; omega)).trans h3
          exact ⟨cell_at (i := 2) h4 rfl, frozen_at (i := 2) h4⟩
        clear hdl hrd hr ht ha hown hone
        go_wp2_with fail
        go_region_law (first
          | (refine step_append_lies _ rfl _ _ 49 rfl (w1.heap.size + 1) 9 i0 (.string ByteArray.empty) 1 16 Tryd.underlying49 hi hz0 hz1 hz2 rfl (by decide) (.slice va vn vc) j (svals done) rfl (own_below (But.own HOw.out hb3.out (by omega)) (old w4 _)) ⟨w4.heap.size, 0, none⟩ 1 1 [.string x] rfl rfl (cell_one_new w4 _ _) (fun u hu => by simp at hu; subst hu; rfl) (by decide) HMax.out.1 HMax.out.2 (by rw [size_alloc]; have := hb3.out.size; omega) (w4.heap.size + 1) (size_alloc _ _) ?_; intro g5 cap5 w5 hown5 hgrow5 _ _; have HOwn5 := Lib.hid hown5; have HGrow5 := Lib.hid hgrow5; obtain ⟨e5, f5⟩ := HKeep4.out w4 w5 _ hb3.out hgrow5; clear hown5 hgrow5)
          | (go_simp; go_at_call 53; (with_reducible refine (HX.out _ ((Below.refl _ wr).drew)).mono ?_); rintro e w4 ⟨rfl, hr4, hb30⟩; have hb3 : Hid (But R wr w4) := Lib.hid ((But.of_below ((Below.refl _ wr).drew)).trans hb30); have HR4' := Lib.hid hr4; obtain ⟨e3, f3⟩ := HKeep.out w4 hb3.out; obtain ⟨e3a, f3a⟩ := HKeep.out (w4.alloc (.cells #[.string x] 9)) (hb3.out.trans (But.of_below (old _ _))); clear hb30 hr4))
        all_goals
          go_wp2
          go_roundw
          case rel =>
            have hvo : ∀ g, (Value.slice va vn vc).ownBlock = some g → w1.heap.size + 1 ≤ g := fun g hg => (HOw.out.lt g hg).1
            have hR5 := after HR4'.out HGrow5.out (fun e => by have := hvo _ e; omega)
            have hT5 := after (hb3.out.keep HTT.out (by omega)) HGrow5.out (fun e => by have := hvo _ e; omega)
            have hA5 := after (hb3.out.keep HA.out (by omega)) HGrow5.out (fun e => by have := hvo _ e; omega)
            have h4s := hb3.out.size
            have h5s := HGrow5.out.size
            rw [size_alloc] at h5s
            refine ⟨j + 1, done ++ [x], q', _, by omega, by go_num, by rw [List.length_append, HD.out]; rfl, HRD2.out, (heap_setCell_other _ _ _ _ (by simp; omega)).trans hR5, heap_setCell_same _ _ 2 _ _ _ hT5, (heap_setCell_other _ _ _ _ (by simp; omega)).trans hA5, ?_, ?_, ?_⟩
            · rw [svals_snoc]
              exact ownsRow_setCell_below HOwn5.out (by simp) _
            · have h6 := hb.trans hb3.out
              exact h6.more ((((Below.refl _ _).alloc h6.size _).grown HGrow5.out (by rw [size_alloc]; have := h6.size; omega) (fun g hg => by have := hvo g hg; omega)).setCell (by simp; omega) _)
            · simp; omega
          case measure => simp [intOf]; omega
      | none =>
        have HX : Hid (∀ W, Below wr.heap.size wr W → Calls Tryd.prog 53 #[.pointer (some ⟨R, 0, none⟩)] W fun e w' => Falls e ∧ Below W.heap.size W w') := Lib.hid fun W h => take_no R s hs q hone W (HR.out.below h) (HE.out W (hb.trans (But.of_below h)))
        have HNo : Hid (readN (oneText s) m q2 = none) := Lib.hid (by rw [← HRD.out, show m - j = (m - (j + 1)) + 1 by omega, readN_stop hone])
        clear hdl hrd hr ht ha hown hone
        go_wp2_with fail
        go_region_dies
        all_goals
          with_reducible refine (HX.out _ ((Below.refl _ wr).drew)).mono ?_
          rintro e w4 ⟨⟨T3, p3, rfl⟩, hb30⟩
          go_wp2
          rw [HNo.out]
          exact ⟨rfl, ⟨T3, p3, rfl⟩, hb.trans (But.of_below (grows ((Below.refl _ wr).drew) hb30))⟩
    · have hltz : ¬ ((j : Int) < (m : Int)) := by omega
      have hjm : j = m := by omega
      have hsr : SRow wr (.slice va vn vc) done := own_srow (T := 9) (by rw [hdl]; exact hown)
      have hsn : SNew (w1.heap.size + 1) wr (.slice va vn vc) done := ⟨hsr, fun g o n c e hn => by
        cases va with
        | none => cases e
        | some a =>
          injection e with e1 _ _
          injection e1 with e1
          subst e1
          exact (HOw.out.lt g rfl).1⟩
      have hvn : vn = done.length := by
        obtain ⟨a, cap, e, _⟩ := hsr.slice
        injection e
      subst hvn
      have HFin : Hid (readN (oneText s) m q2 = some (done, q)) := Lib.hid (by
        rw [← HRD.out, hjm, Nat.sub_self]
        simp [readN, Forms.ahead])
      have HSN := Lib.hid hsn
      cases hrt : rightT (k, b, done) with
      | true =>
        have HS : Hid (Calls Tryd.prog 54 #[.agg #[.string k, .bool b, .slice va done.length vc]] wr fun e w' => e = .returned (.agg #[.string k, .bool b, .slice va done.length vc]) ∧ Below wr.heap.size wr w') := Lib.hid (sure_yes k b va vc done wr hsr (by omega) hrt)
        have HV : Hid (valued k b (readN (oneText s) m q2) = some ((k, b, done), q)) := Lib.hid (by rw [HFin.out]; simp [valued, hrt])
        clear hdl hrd hr ht ha hown hsr hsn hrt
        go_wp2_with fail
        with_reducible refine HS.out.mono ?_
        rintro e w4 ⟨rfl, hb4⟩
        have hA4 := keep HA.out hb4
        obtain ⟨d0, d1, d2, g0, g1, g2⟩ := cells3 hA4
        obtain ⟨e0, e1, e2, _⟩ := cells3 (set3_box hA4 (.string k) (.bool b) (.slice va done.length vc))
        have HZ : Hid (But w.heap.size w4 (set3 w.heap.size (.string k) (.bool b) (.slice va done.length vc) w4)) := Lib.hid ((((But.refl _ _).set 0 _).set 1 _).set 2 _)
        have HZ2 : Hid (But R w (set3 w.heap.size (.string k) (.bool b) (.slice va done.length vc) w4)) := Lib.hid ((hb.trans (But.of_below hb4)).more (set3_below (Below.refl _ _) (Nat.le_refl _)))
        unfold set3 at e0 e1 e2 HZ HZ2
        clear hA4
        go_wp2
        refine bodyPost_ret (v := .agg #[.string k, .bool b, .slice va done.length vc]) (by simp [results, Tryd.results30, go_sem, e0, e1, e2]) rfl ?_
        rw [HV.out]
        exact ⟨⟨_, rfl, _, rfl, ((HSN.out.below hb4).but HZ.out (by omega)).mono (by omega)⟩, HZ.out.keep (HR.out.below hb4) (by omega), HZ2.out⟩
      | false =>
        have HS : Hid (Calls Tryd.prog 54 #[.agg #[.string k, .bool b, .slice va done.length vc]] wr fun e w' => Falls e ∧ Below wr.heap.size wr w') := Lib.hid (sure_no k b va vc done wr hsr (by omega) hrt (HE.out wr hb))
        have HV : Hid (valued k b (readN (oneText s) m q2) = none) := Lib.hid (by rw [HFin.out]; simp [valued, hrt])
        clear hdl hrd hr ht ha hown hsr hsn hrt
        go_wp2_with fail
        with_reducible refine HS.out.mono ?_
        rintro e w4 ⟨⟨T3, p3, rfl⟩, hb4⟩
        go_wp2
        rw [HV.out]
        exact ⟨rfl, ⟨T3, p3, rfl⟩, hb.trans (But.of_below hb4)⟩

theorem oneR_none {s : ByteArray} {p : Int} (h : oneText s p = none) : oneR s p = none := by unfold oneR oneT; rw [h]
theorem oneR_bare {s : ByteArray} {p : Int} {k : ByteArray × Int} (h : oneText s p = some k) (h2 : Wire.getV s.data.toList k.2 = none) : oneR s p = none := by unfold oneR oneT; rw [h]; simp only; rw [h2]
theorem oneR_great {s : ByteArray} {p : Int} {k : ByteArray × Int} {n : Nat × Nat} (h : oneText s p = some k) (h2 : Wire.getV s.data.toList k.2 = some n) (h9 : 9 < n.1) : oneR s p = none := by unfold oneR oneT; rw [h]; simp only; rw [h2]; simp only; rw [if_pos h9]
theorem oneR_full {s : ByteArray} {p : Int} {k : ByteArray × Int} {n : Nat × Nat} (h : oneText s p = some k) (h2 : Wire.getV s.data.toList k.2 = some n) (h9 : ¬ 9 < n.1) : oneR s p = valued k.1 (decide (n.1 % 2 = 1)) (readN (oneText s) (n.1 / 2) (n.2 : Int)) := by
  unfold oneR oneT
  rw [h]
  simp only
  rw [h2]
  simp only
  rw [if_neg h9]
  cases readN (oneText s) (n.1 / 2) (n.2 : Int) with
  | none => rfl
  | some vs => rfl
/-- What is taken as a term, in one form. -/
theorem term_any (R : Nat) (s : ByteArray) (hs : s.size ≤ 9223372036854775807) (p : Int) (w : World) (hr : Rd R s p w) (hE : Err w) (hgR : 0 ≠ R) :
    Calls Tryd.prog 30 #[.pointer (some ⟨R, 0, none⟩)] w (TookT R s (oneR s p) w) := by
  cases h : oneText s p with
  | none => rw [oneR_none h]; exact term_a R s hs p h w hr hE
  | some k =>
    cases h2 : Wire.getV s.data.toList k.2 with
    | none => rw [oneR_bare h h2]; exact term_b R s hs p k.1 k.2 h w hr hE hgR (Lib.hid fun W hr hE => number_none R s hs k.2 9 h2 W hr hE)
    | some n =>
      by_cases h9 : 9 < n.1
      · rw [oneR_great h h2 h9]; exact term_b R s hs p k.1 k.2 h w hr hE hgR (Lib.hid fun W hr hE => number_great R s hs k.2 9 n.1 n.2 h2 h9 W hr hE)
      · rw [oneR_full h h2 h9]; exact term_c R s hs p k.1 k.2 n.1 _ _ n.2 (by omega) rfl rfl h w hr hE hgR (Lib.hid fun W hr => number_yes R s hs k.2 9 n.1 n.2 h2 (by omega) (by omega) W hr)
end Go.Proofs.YtcgknkbigbbfdaaDoor.Sel

/- What sel.Get answers of every text and place; of memory that was there nothing turns. -/
namespace Go.Proofs.YtcgknkbigbbfdaaDoor.Sel
open Go.RowKit Go.Proofs.YtcgknkbigbbfdaaDoor.Texts Go.Proofs.YtcgknkbigbbfdaaDoor.Word Go.Proofs.YtcgknkbigbbfdaaDoor.Forms Go.Proofs.YtcgknkbigbbfdaaDoor.Split Go.Proofs.YtcgknkbigbbfdaaDoor.Boxes

/-- What is told of a selector that was got, or of none. -/
def TellsG (r : Option (List Tm × Int)) (w : World) (e : Ending) (w' : World) : Prop := (match r with
  | none => e = .returned (.tuple #[.slice none 0 0, .int .i64 0, .bool false])
  | some x => ∃ v, e = .returned (.tuple #[v, .int .i64 x.2, .bool true]) ∧ TRow w' v x.1) ∧ Below w.heap.size w w'
def allR : Option (List Tm × Int) → Option (List Tm × Int)
  | none => none
  | some x => if x.1.all rightT = true then some x else none
theorem oneR_at {s : ByteArray} {p : Int} {x : Tm × Int} (h : oneT s p = some x) : oneR s p = if rightT x.1 = true then some x else none := by unfold oneR; rw [h]
theorem oneR_no {s : ByteArray} {p : Int} (h : oneT s p = none) : oneR s p = none := by unfold oneR; rw [h]
theorem readN_all (s : ByteArray) : ∀ (k : Nat) (p : Int), readN (oneR s) k p = allR (readN (oneT s) k p)
  | 0, p => rfl
  | k + 1, p => by
    rw [readN, readN]
    cases h : oneT s p with
    | none => rw [oneR_no h]; rfl
    | some x =>
      rw [oneR_at h]
      have ih := readN_all s k x.2
      by_cases hx : rightT x.1 = true
      · rw [if_pos hx]
        simp only
        rw [ih]
        cases readN (oneT s) k x.2 with
        | none => rfl
        | some y =>
          by_cases hy : y.1.all rightT = true
          · simp [allR, hx, hy]
          · simp [allR, hx, hy]
      · rw [if_neg hx]
        simp only
        cases readN (oneT s) k x.2 with
        | none => rfl
        | some y => simp [allR, hx]
theorem keep_all {s : ByteArray} {k : Nat} (hk : k ≤ 4) (p : Int) : keepS (readN (oneT s) k p) = readN (oneR s) k p := by
  rw [readN_all]
  cases h : readN (oneT s) k p with
  | none => rfl
  | some x =>
    have := readN_len h
    have e : rightS x.1 = x.1.all rightT := by unfold rightS; rw [decide_eq_true (show x.1.length ≤ 4 by omega), Bool.true_and]
    show (if rightS x.1 = true then some x else none) = if x.1.all rightT = true then some x else none
    rw [e]

/-- The three answers' variables behind a panic. -/
theorem fallen3 {H : Nat} {w0 w : World} {x y z : Value} (hb : Below H w0 w) (h0 : w.heap[H]? = some (.cells #[x] 22)) (h1 : w.heap[H + 1]? = some (.cells #[y] 3)) (h2 : w.heap[H + 2]? = some (.cells #[z] 4)) (v : Value) (i : Int) (b : Bool) :
    (((w.setCell ⟨H, 0, none⟩ v).setCell ⟨H + 1, 0, none⟩ (.int .i64 i)).setCell ⟨H + 2, 0, none⟩ (.bool b)).cell? ⟨H, 0, none⟩ = some v ∧ (((w.setCell ⟨H, 0, none⟩ v).setCell ⟨H + 1, 0, none⟩ (.int .i64 i)).setCell ⟨H + 2, 0, none⟩ (.bool b)).cell? ⟨H + 1, 0, none⟩ = some (.int .i64 i) ∧
    (((w.setCell ⟨H, 0, none⟩ v).setCell ⟨H + 1, 0, none⟩ (.int .i64 i)).setCell ⟨H + 2, 0, none⟩ (.bool b)).cell? ⟨H + 2, 0, none⟩ = some (.bool b) ∧
    Below H w0 (((w.setCell ⟨H, 0, none⟩ v).setCell ⟨H + 1, 0, none⟩ (.int .i64 i)).setCell ⟨H + 2, 0, none⟩ (.bool b)) := by
  have a0 := heap_setCell_same w H 0 _ _ v h0
  have a1 := (heap_setCell_other w ⟨H, 0, none⟩ (H + 1) v (by simp)).trans h1
  have a2 := (heap_setCell_other w ⟨H, 0, none⟩ (H + 2) v (by simp)).trans h2
  have b0 := (heap_setCell_other (w.setCell ⟨H, 0, none⟩ v) ⟨H + 1, 0, none⟩ H (.int .i64 i) (by simp)).trans a0
  have b1 := heap_setCell_same _ (H + 1) 0 _ _ (.int .i64 i) a1
  have b2 := (heap_setCell_other (w.setCell ⟨H, 0, none⟩ v) ⟨H + 1, 0, none⟩ (H + 2) (.int .i64 i) (by simp)).trans a2
  have c0 := (heap_setCell_other _ ⟨H + 2, 0, none⟩ H (.bool b) (by simp)).trans b0
  have c1 := (heap_setCell_other _ ⟨H + 2, 0, none⟩ (H + 1) (.bool b) (by simp)).trans b1
  have c2 := heap_setCell_same _ (H + 2) 0 _ _ (.bool b) b2
  exact ⟨cell_at (i := 0) c0 rfl, cell_at (i := 0) c1 rfl, cell_at (i := 0) c2 rfl, ((hb.setCell (Nat.le_refl _) _).setCell (by simp) _).setCell (by simp) _⟩

set_option maxHeartbeats 1000000 in
set_option maxRecDepth 100000 in
theorem get_bare (s : ByteArray) (p : Int) (w : World) (hE : Err w)
    (HN : Hid (∀ R W, Rd R s p W → Err W → Calls Tryd.prog 29 #[.pointer (some ⟨R, 0, none⟩), .int .u64 4] W fun e w' => Falls e ∧ Below W.heap.size W w')) :
    Calls Tryd.prog 11 #[.string s, .int .i64 p] w (TellsG none w) := by
  have hmf : ∀ (fn : Fn) (first cap : Array Value) (w : World), (Instr.makeFunc fn first cap).run Tryd.prog w = .ok (.func fn first cap) w := fun _ _ _ _ => rfl
  have HE : Hid (∀ W, Below w.heap.size w W → Err W) := Lib.hid fun W h => hE.below h
  clear hE
  go_enter_defers Tryd.func11, Tryd.ntmps11
  go_wp2_with fail
  have hb0 := grows (grows (grows (grew w (.cells #[.slice none 0 0] 22)) (grew _ (.cells #[.int .i64 0] 3))) (grew _ (.cells #[.bool false] 4))) (grew _ (.cells #[.string s, .int .i64 p] 61))
  refine (HN.out _ _ (fresh3 w _ _ _ _) (HE.out _ hb0)).mono ?_
  rintro e w1 ⟨⟨T, pe, rfl⟩, hb1⟩
  have h0 := keep (keep (keep (keep (fresh w _) (old _ _)) (old _ _)) (old _ _)) hb1
  have h1 := keep (keep (keep (fresh1 w _ _) (old _ _)) (old _ _)) hb1
  have h2 := keep (keep (fresh2 w _ _ _) (old _ _)) hb1
  have hb := grows hb0 hb1
  go_wp2
  refine leaves_cons (f := 28) (args := #[.pointer (some ⟨w.heap.size, 0, none⟩), .pointer (some ⟨w.heap.size + 1, 0, none⟩), .pointer (some ⟨w.heap.size + 2, 0, none⟩)]) (by simp) (by simp [go_sem]) ?_
  refine (get_catch w.heap.size _ _ _ pe T [] _ h0 h1 h2).mono ?_
  rintro e u' w2 ⟨rfl, rfl, rfl⟩
  obtain ⟨c0, c1, c2, hbz⟩ := fallen3 hb h0 h1 h2 (.slice none 0 0) 0 false
  simp [Leaves, settle, results, Tryd.results11, go_sem, c0, c1, c2]
  exact ⟨rfl, hbz⟩
end Go.Proofs.YtcgknkbigbbfdaaDoor.Sel

/- What sel.Get answers where a number of at most four terms stands: term by term. -/
namespace Go.Proofs.YtcgknkbigbbfdaaDoor.Sel
open Go.RowKit Go.Proofs.YtcgknkbigbbfdaaDoor.Texts Go.Proofs.YtcgknkbigbbfdaaDoor.Word Go.Proofs.YtcgknkbigbbfdaaDoor.Forms Go.Proofs.YtcgknkbigbbfdaaDoor.Split Go.Proofs.YtcgknkbigbbfdaaDoor.Boxes

set_option maxHeartbeats 4000000 in
set_option maxRecDepth 100000 in
theorem get_few (s : ByteArray) (hs : s.size ≤ 9223372036854775807) (p : Int) (n : Nat) (q0 : Int) (hn : n ≤ 4) (w : World) (hE : Err w) (hgw : 0 < w.heap.size)
    (HN : Hid (∀ R W, Rd R s p W → Calls Tryd.prog 29 #[.pointer (some ⟨R, 0, none⟩), .int .u64 4] W (Took R s (.int .i64 (n : Int)) q0 W))) :
    Calls Tryd.prog 11 #[.string s, .int .i64 p] w (TellsG (readN (oneR s) n q0) w) := by
  obtain ⟨i0, hi, hz0, hz1, hz2⟩ := info_parts infoT
  have hmf : ∀ (fn : Fn) (first cap : Array Value) (w : World), (Instr.makeFunc fn first cap).run Tryd.prog w = .ok (.func fn first cap) w := fun _ _ _ _ => rfl
  have HE : Hid (∀ W, Below w.heap.size w W → Err W) := Lib.hid fun W h => hE.below h
  clear hE
  go_enter_defers Tryd.func11, Tryd.ntmps11
  go_wp2_with fail
  have hb0 := grows (grows (grows (grew w (.cells #[.slice none 0 0] 22)) (grew _ (.cells #[.int .i64 0] 3))) (grew _ (.cells #[.bool false] 4))) (grew _ (.cells #[.string s, .int .i64 p] 61))
  refine (HN.out _ _ (fresh3 w _ _ _ _)).mono ?_
  rintro e w1 ⟨rfl, hr1, hbut⟩
  have h0 := hbut.keep (keep (keep (keep (fresh w _) (old _ _)) (old _ _)) (old _ _)) (by omega)
  have h1 := hbut.keep (keep (keep (fresh1 w _ _) (old _ _)) (old _ _)) (by omega)
  have h2 := hbut.keep (keep (fresh2 w _ _ _) (old _ _)) (by omega)
  have hb : Below w.heap.size w w1 := hb0.trans (hbut.below (by omega) hb0.size)
  have hB1 : w.heap.size + 4 ≤ w1.heap.size := by have := lt_of hr1; omega
  have HM0 : Hid (Making w.heap.size (w.heap.size + 4) w1 (.slice none 0 0) []) := Lib.hid ⟨h0, World.ownsRow_nil _ _ _ _, fun x hx => by simp at hx⟩
  have H1 := Lib.hid h1
  have H2 := Lib.hid h2
  have HR1 := Lib.hid hr1
  have HB := Lib.hid hb
  clear h0 h1 h2 hb hr1 hbut hb0
  go_wp2_with fail
  go_loopw [13] (fun i wr => ∃ (j : Nat) (v : Value) (xs : List (Tm × Value)) (q : Int), j ≤ n ∧ i = .int .i64 j ∧ xs.length = j ∧ Forms.ahead (xs.map (·.1)) (readN (oneR s) (n - j) q) = readN (oneR s) n q0 ∧ Making w.heap.size (w.heap.size + 4) wr v xs ∧ wr.heap[w.heap.size + 1]? = some (.cells #[.int .i64 0] 3) ∧ wr.heap[w.heap.size + 2]? = some (.cells #[.bool false] 4) ∧
    Rd (w.heap.size + 3) s q wr ∧ w.heap.size + 4 ≤ wr.heap.size ∧ Below w.heap.size w wr) (fun i _ => n - (intOf i).toNat)
  case atStart => exact ⟨0, _, [], q0, Nat.zero_le _, rfl, rfl, ahead_nil _, HM0.out, H1.out, H2.out, HR1.out, hB1, HB.out⟩
  case round =>
    obtain ⟨j, v, xs, q, hj, rfl, hxl, hrd, hmk, h1, h2, hr, hBr, hb⟩ := hrel
    have HXL := Lib.hid hxl
    have HRD := Lib.hid hrd
    have HMK := Lib.hid hmk
    have HH1 := Lib.hid h1
    have HH2 := Lib.hid h2
    have HR := Lib.hid hr
    have hc0 := cell_at (i := 0) hmk.cell rfl
    have hlH := lt_of hmk.cell
    have hvf : ∃ va vn vc, v = .slice va vn vc := by
      rcases hmk.own.2 with ⟨h, _⟩ | ⟨g, cap, cur, h, _⟩
      · exact ⟨_, _, _, h⟩
      · exact ⟨_, _, _, h⟩
    obtain ⟨va, vn, vc, rfl⟩ := hvf
    by_cases hlt : j < n
    · have hltz : (j : Int) < (n : Int) := by omega
      cases hone : oneR s q with
      | some x =>
        obtain ⟨t, q'⟩ := x
        have HT : Hid (∀ W, Below wr.heap.size wr W → Calls Tryd.prog 30 #[.pointer (some ⟨w.heap.size + 3, 0, none⟩)] W (TookT (w.heap.size + 3) s (some (t, q')) W)) := Lib.hid fun W h => by
          rw [← hone]
          exact term_any _ s hs q W (HR.out.below h) (HE.out W (grows hb h)) (by omega)
        have HRD2 : Hid (Forms.ahead (xs.map (·.1) ++ [t]) (readN (oneR s) (n - (j + 1)) q') = readN (oneR s) n q0) := Lib.hid (by rw [← HRD.out, show n - j = (n - (j + 1)) + 1 by omega, readN_go hone])
        have HOw := Lib.hid hmk.own
        have HMax : Hid (xs.length + 1 ≤ maxLen ∧ (xs.length + 1) * 48 ≤ 140737488355328) := Lib.hid (by have := HXL.out; unfold maxLen; omega)
        have HKeep : Hid (∀ W, But (w.heap.size + 3) wr W → W.cell? ⟨w.heap.size, 0, none⟩ = some (.slice va vn vc) ∧ W.frozen? ⟨w.heap.size, 0, none⟩ = false) := Lib.hid fun W h => ⟨cell_at (i := 0) (h.keep hmk.cell (by omega)) rfl, frozen_at (i := 0) (h.keep hmk.cell (by omega))⟩
        have HKeep4 : Hid (∀ W W' o, But (w.heap.size + 3) wr W → (W.alloc o).grownBy W' (Value.slice va vn vc).ownBlock → W'.cell? ⟨w.heap.size, 0, none⟩ = some (.slice va vn vc) ∧ W'.frozen? ⟨w.heap.size, 0, none⟩ = false) := Lib.hid fun W W' o h hg => by
          have h4 := after (h.keep hmk.cell (by omega)) hg (fun e => by have := hmk.own.lt _ e; omega)
          exact ⟨cell_at (i := 0) h4 rfl, frozen_at (i := 0) h4⟩
        obtain ⟨_, hf1⟩ := HKeep.out wr (But.refl _ _)
        clear hone hmk h1 h2 hr hrd hxl
        obtain ⟨tk, tn, tv⟩ := t
        go_wp2_with fail
        first | (go_region_law (first
          | (refine step_append_lies _ rfl _ _ 22 rfl (w.heap.size + 4) 51 i0 (.agg #[.string ByteArray.empty, .bool false, .slice none 0 0]) 3 48 Tryd.underlying22 hi hz0 hz1 hz2 rfl (by decide) (.slice va vn vc) xs.length (tvals xs) rfl (own_below (But.own HOw.out hb3.out (by omega)) (old w3 _)) ⟨w3.heap.size, 0, none⟩ 1 1 [.string tk, .bool tn, .slice sa tv.length sc] rfl rfl (new3 w3 _ _ _ _) (one3 _ _ _ _ _) (by decide) HMax.out.1 HMax.out.2 (by rw [size_alloc]; have := hb3.out.size; omega) (w3.heap.size + 1) (size_alloc _ _) ?_; intro g4 cap4 w4 hown4 hgrow4 hat4 _; have HOwn4 := Lib.hid hown4; have HGrow4 := Lib.hid hgrow4; have HAt4 := Lib.hid hat4; obtain ⟨e4, f4⟩ := HKeep4.out w3 w4 _ hb3.out hgrow4; clear hown4 hgrow4 hat4)
          | (go_simp; go_at_call 30; (with_reducible refine (HT.out _ ((Below.refl _ wr).drew)).mono ?_); rintro e w3 ⟨⟨v3, rfl, s3, rfl, hs3⟩, hr3, hb30⟩; obtain ⟨sa, sc, rfl, _, _⟩ := hs3.1.slice; have hb3 : Hid (But (w.heap.size + 3) wr w3) := Lib.hid ((But.of_below ((Below.refl _ wr).drew)).trans hb30); have HS3 : Hid (SNew wr.heap.size w3 (.slice sa tv.length sc) tv) := Lib.hid hs3; have HR3 := Lib.hid hr3; obtain ⟨e3, f3⟩ := HKeep.out w3 hb3.out; obtain ⟨e3a, f3a⟩ := HKeep.out (w3.alloc (.cells #[.string tk, .bool tn, .slice sa tv.length sc] 51)) (hb3.out.trans (But.of_below (old _ _))); clear hb30 hs3 hr3))) | fail
        all_goals
          go_wp2
          go_roundw
          case rel =>
            obtain ⟨hm5, hk5, hsz5, _⟩ := Making.step (q := fun k => k ≠ w.heap.size + 3) (by omega) HMK.out (by omega) (fun _ _ => by omega) hBr hb3.out.size (fun k hk hq => hb3.out.block k hk hq) (t := (tk, tn, tv)) HS3.out HOwn4.out HGrow4.out HAt4.out
            have hvo : ∀ k, (Value.slice va vn vc).ownBlock = some k → w.heap.size + 4 ≤ k := fun k hk => (HMK.out.own.lt k hk).1
            have hR5 := after HR3.out HGrow4.out (fun e => by have := hvo _ e; omega)
            refine ⟨j + 1, _, _, q', by omega, by go_num, ?_, ?_, hm5, ?_, ?_, ?_, ?_, ?_⟩
            · rw [List.length_append, HXL.out]; rfl
            · rw [List.map_append]; exact HRD2.out
            · exact (hk5 _ (by omega) (by omega) (by omega) (fun e => by have := hvo _ e; omega)).trans HH1.out
            · exact (hk5 _ (by omega) (by omega) (by omega) (fun e => by have := hvo _ e; omega)).trans HH2.out
            · exact (heap_setCell_other _ _ _ _ (by simp)).trans hR5
            · simp; omega
            · have b3 := hb.trans (hb3.out.below (B := w.heap.size) (by omega) (by omega))
              exact ((b3.alloc b3.size _).grown HGrow4.out (by rw [size_alloc]; have := b3.size; omega) (fun k hk => by have := hvo k hk; omega)).setCell (Nat.le_refl _) _
          case measure => simp [intOf]; omega
      | none =>
        have HT : Hid (∀ W, Below wr.heap.size wr W → Calls Tryd.prog 30 #[.pointer (some ⟨w.heap.size + 3, 0, none⟩)] W (TookT (w.heap.size + 3) s none W)) := Lib.hid fun W h => by
          rw [← hone]
          exact term_any _ s hs q W (HR.out.below h) (HE.out W (grows hb h)) (by omega)
        have HNo : Hid (readN (oneR s) n q0 = none) := Lib.hid (by rw [← HRD.out, show n - j = (n - (j + 1)) + 1 by omega, readN_stop hone])
        clear hone hmk h1 h2 hr hrd hxl
        go_wp2_with fail
        first | go_region_dies | fail
        all_goals
          with_reducible refine (HT.out _ ((Below.refl _ wr).drew)).mono ?_
          rintro e w3 ⟨⟨T3, p3, rfl⟩, hb30⟩
          have hb3 := (But.of_below (R := w.heap.size + 3) ((Below.refl _ wr).drew)).trans hb30
          clear hb30
          have k0 := hb3.keep HMK.out.cell (by omega)
          have k1 := hb3.keep HH1.out (by omega)
          have k2 := hb3.keep HH2.out (by omega)
          go_wp2
          refine leaves_cons (f := 28) (args := #[.pointer (some ⟨w.heap.size, 0, none⟩), .pointer (some ⟨w.heap.size + 1, 0, none⟩), .pointer (some ⟨w.heap.size + 2, 0, none⟩)]) (by simp) (by simp [go_sem]) ?_
          refine (get_catch w.heap.size _ _ _ p3 T3 [] _ k0 k1 k2).mono ?_
          rintro e u' w2 ⟨rfl, rfl, rfl⟩
          obtain ⟨d0, d1, d2, hbz⟩ := fallen3 (hb.trans (hb3.below (by omega) (by omega))) k0 k1 k2 (.slice none 0 0) 0 false
          rw [HNo.out]
          simp [Leaves, settle, results, Tryd.results11, go_sem, d0, d1, d2]
          exact ⟨rfl, hbz⟩
    · have hltz : ¬ ((j : Int) < (n : Int)) := by omega
      have hjn : j = n := by omega
      have hf0 := frozen_at (i := 0) hmk.cell
      have cR := cell_at (i := 1) hr rfl
      have c1 := cell_at (i := 0) h1 rfl
      have f1 := frozen_at (i := 0) h1
      have c2 := cell_at (i := 0) h2 rfl
      have f2 := frozen_at (i := 0) h2
      have HFin : Hid (readN (oneR s) n q0 = some (xs.map (·.1), q)) := Lib.hid (by
        rw [← HRD.out, hjn, Nat.sub_self]
        simp [readN, Forms.ahead])
      have HD := Lib.hid (fallen3 (w := wr) hb hmk.cell h1 h2 (.slice va vn vc) q true)
      have HTR : Hid (TRow (((wr.drew.setCell ⟨w.heap.size, 0, none⟩ (.slice va vn vc)).setCell ⟨w.heap.size + 1, 0, none⟩ (.int .i64 q)).setCell ⟨w.heap.size + 2, 0, none⟩ (.bool true)) (.slice va vn vc) (xs.map (·.1))) := Lib.hid (own_trow (ownsRow_setCell_below (ownsRow_setCell_below (ownsRow_setCell_below (w := wr.drew) HMK.out.own (by simp) _) (by simp) _) (by simp) _) fun x hx => ((HMK.out.terms x hx).kept (w' := ((wr.drew.setCell ⟨w.heap.size, 0, none⟩ (.slice va vn vc)).setCell ⟨w.heap.size + 1, 0, none⟩ (.int .i64 q)).setCell ⟨w.heap.size + 2, 0, none⟩ (.bool true)) (q := fun _ => True) (by simp) fun g hg _ => ⟨by
        have := hg.1
        rw [heap_setCell_other _ _ _ _ (by simp; omega), heap_setCell_other _ _ _ _ (by simp; omega), heap_setCell_other _ _ _ _ (by simp; omega)]
        rfl, trivial⟩).1)
      clear hmk h1 h2 hr hrd hxl
      go_wp2_with fail
      first | go_region | fail
      go_wp2
      refine leaves_cons (f := 28) (args := #[.pointer (some ⟨w.heap.size, 0, none⟩), .pointer (some ⟨w.heap.size + 1, 0, none⟩), .pointer (some ⟨w.heap.size + 2, 0, none⟩)]) (by simp) (by simp [go_sem]) ?_
      refine (get_idle _ _ _ _).mono ?_
      rintro e u' w2 ⟨rfl, rfl, rfl⟩
      obtain ⟨d0, d1, d2, hbz⟩ := HD.out
      rw [HFin.out]
      simp [Leaves, settle, results, Tryd.results11, go_sem, d0, d1, d2]
      exact ⟨⟨_, rfl, HTR.out⟩, hbz.drew⟩

/-- What is got, in one form: what the document's Get tells. -/
theorem get_any (s : ByteArray) (hs : s.size ≤ 9223372036854775807) (p : Int) (w : World) (hE : Err w) : Calls Tryd.prog 11 #[.string s, .int .i64 p] w (TellsG (getS s p) w) := by
  have hgw : 0 < w.heap.size := by
    obtain ⟨T, x, h⟩ := hE
    exact World.block_lt_of_cell? w ⟨0, 0, none⟩ h
  unfold getS
  cases h : Wire.getV s.data.toList p with
  | none => exact get_bare s p w hE (Lib.hid fun R W hr hE => number_none R s hs p 4 h W hr hE)
  | some a =>
    simp only
    by_cases h4 : 4 < a.1
    · rw [if_pos h4]
      exact get_bare s p w hE (Lib.hid fun R W hr hE => number_great R s hs p 4 a.1 a.2 h h4 W hr hE)
    · rw [if_neg h4, keep_all (by omega)]
      exact get_few s hs p a.1 a.2 (by omega) w hE hgw (Lib.hid fun R W hr => number_yes R s hs p 4 a.1 a.2 h (by omega) (by omega) W hr)
end Go.Proofs.YtcgknkbigbbfdaaDoor.Sel

/- The chapter's examples, asked of the program: all are so; of memory that was there nothing turns. -/
namespace Go.Proofs.YtcgknkbigbbfdaaDoor.Sel
open Go.RowKit Go.Proofs.YtcgknkbigbbfdaaDoor.Texts Go.Proofs.YtcgknkbigbbfdaaDoor.Word Go.Proofs.YtcgknkbigbbfdaaDoor.Forms Go.Proofs.YtcgknkbigbbfdaaDoor.Boxes Go.Proofs.YtcgknkbigbbfdaaDoor.Label

/-- Pairs that are written out. -/
theorem row_new (w : World) (ls : List Pr) (T : TypeId) (hl : ls.length ≤ 100) : Row (w.alloc (.cells (ls.flatMap enc).toArray T)) (.slice (some ⟨w.heap.size, 0, none⟩) ls.length ls.length) ls := by
  by_cases h0 : ls = []
  · subst h0; exact .inl ⟨rfl, _, _, rfl, Nat.zero_le _⟩
  · refine .inr ⟨h0, w.heap.size, 0, ls.length, rfl, lt_of (fresh w _), Nat.le_refl _, by unfold maxLen; omega, fun j x hj => ?_⟩
    have hf : ∀ (ls : List Pr) (j : Nat) (x : Pr), ls[j]? = some x → (ls.flatMap enc)[j * 2]? = some (.string x.1) ∧ (ls.flatMap enc)[j * 2 + 1]? = some (.string x.2) := by
      intro ls
      induction ls with
      | nil => intro j x h; simp at h
      | cons a r ih =>
        intro j x h
        have e : (a :: r).flatMap enc = .string a.1 :: .string a.2 :: r.flatMap enc := rfl
        cases j with
        | zero => simp at h; subst h; exact ⟨rfl, rfl⟩
        | succ j =>
          obtain ⟨h1, h2⟩ := ih j x (by simpa using h)
          rw [e, show (j + 1) * 2 = j * 2 + 1 + 1 by omega]
          exact ⟨h1, h2⟩
    obtain ⟨h1, h2⟩ := hf ls j x hj
    rw [Nat.zero_add]
    exact ⟨cell_at (fresh w _) (by rw [List.getElem?_toArray]; exact h1), cell_at (fresh w _) (by rw [List.getElem?_toArray]; exact h2)⟩
theorem row_none (w : World) : Row w (.slice none 0 0) [] := .inl ⟨rfl, _, _, rfl, Nat.zero_le _⟩

def tZone : ByteArray := ⟨#[122, 111, 110, 101]⟩
def tDisk : ByteArray := ⟨#[100, 105, 115, 107]⟩
def tGpu : ByteArray := ⟨#[103, 112, 117]⟩
def one1 (c : UInt8) : ByteArray := ⟨#[c]⟩
/-- The chapter's selector. -/
def sample : List Tm := [(tZone, true, [one1 97, one1 98]), (tGpu, true, []), (tDisk, false, [])]
def sampleText : ByteArray := ⟨#[122, 111, 110, 101, 33, 61, 97, 124, 98, 44, 33, 103, 112, 117, 44, 100, 105, 115, 107]⟩
def wrongText : ByteArray := ⟨#[122, 111, 110, 101, 61, 98, 124, 97]⟩
theorem sample_right : rightS sample = true := by decide +kernel
theorem sample_text : textS sample = sampleText := by decide +kernel
theorem sample_parse : parseS sampleText = some sample := by rw [← sample_text]; exact parse_text sample_right
theorem wrong_parse : parseS wrongText = none := by decide +kernel
theorem fair_sample : Fair sample := by
  refine ⟨by decide, fun t ht => ?_⟩
  simp only [sample, List.mem_cons, List.not_mem_nil, or_false] at ht
  rcases ht with rfl | rfl | rfl
  · exact ⟨by decide, by decide, fun x hx => by simp only [List.mem_cons, List.not_mem_nil, or_false] at hx; rcases hx with rfl | rfl <;> decide⟩
  · exact ⟨by decide, by decide, fun x hx => by simp at hx⟩
  · exact ⟨by decide, by decide, fun x hx => by simp at hx⟩
theorem match_1 : matchS (findL [(tDisk, ⟨#[115, 115, 100]⟩), (tZone, one1 99)]) sample = true := by decide +kernel
theorem match_2 : matchS (findL [(tDisk, ⟨#[115, 115, 100]⟩), (tZone, one1 97)]) sample = false := by decide +kernel
theorem match_3 : matchS (findL [(tDisk, one1 120)]) sample = true := by decide +kernel
theorem put_1 : putS (sample.drop 2) = ⟨#[1, 4, 100, 105, 115, 107, 0]⟩ := by decide +kernel
theorem same_1 : decide (sample = sample.drop 1) = false := by decide +kernel
end Go.Proofs.YtcgknkbigbbfdaaDoor.Sel

/- The walk of the chapter's examples. -/
namespace Go.Proofs.YtcgknkbigbbfdaaDoor.Sel
open Go.RowKit Go.Proofs.YtcgknkbigbbfdaaDoor.Texts Go.Proofs.YtcgknkbigbbfdaaDoor.Word Go.Proofs.YtcgknkbigbbfdaaDoor.Forms Go.Proofs.YtcgknkbigbbfdaaDoor.Boxes Go.Proofs.YtcgknkbigbbfdaaDoor.Label

/-- What stands behind the first few terms. -/
theorem trow_drop {w : World} {g o cap n : Nat} {ls : List Tm} (h : TRow w (.slice (some ⟨g, o, none⟩) n cap) ls) (k : Nat) (hk : k < ls.length) : TRow w (.slice (some ⟨g, o + k * 3, none⟩) (ls.length - k) (cap - k)) (ls.drop k) := by
  rcases h with ⟨rfl, _⟩ | ⟨h0, g', o', cap', hsl, hg, hc, hm, hcell⟩
  · simp at hk
  · injection hsl with h1 h2 h3
    injection h1 with h1
    injection h1 with h1 h4 _
    subst h1 h2 h3 h4
    refine .inr ⟨fun e => by have := congrArg List.length e; simp at this; omega, g, o + k * 3, cap - k, by rw [List.length_drop], hg, by rw [List.length_drop]; omega, by omega, fun j t hj => ?_⟩
    rw [List.getElem?_drop] at hj
    have := hcell (k + j) t hj
    rw [show o + k * 3 + j * 3 = o + (k + j) * 3 by omega]
    exact this
theorem fair_drop {ls : List Tm} (h : Fair ls) (k : Nat) : Fair (ls.drop k) := ⟨by rw [List.length_drop]; have := h.1; omega, fun t ht => h.2 t (List.mem_of_mem_drop ht)⟩

set_option maxHeartbeats 4000000 in
set_option maxRecDepth 100000 in
theorem examples_any (w : World) (hE : Err w) : Calls Tryd.prog 9 #[] w fun e w' => e = .returned (.bool true) ∧ Below w.heap.size w w' := by
  have HE : Hid (∀ W, Below w.heap.size w W → Err W) := Lib.hid fun W h => hE.below h
  have HP1 : Hid (∀ W, Err W → Calls Tryd.prog 13 #[.string ⟨#[122, 111, 110, 101, 33, 61, 97, 124, 98, 44, 33, 103, 112, 117, 44, 100, 105, 115, 107]⟩] W (TellsS (some sample) W)) := Lib.hid fun W h => by
    have := parse_any sampleText (by decide) W h
    rw [sample_parse] at this
    exact this
  have HP2 : Hid (∀ W, Err W → Calls Tryd.prog 13 #[.string ⟨#[122, 111, 110, 101, 61, 98, 124, 97]⟩] W (TellsS none W)) := Lib.hid fun W h => by
    have := parse_any wrongText (by decide) W h
    rw [wrong_parse] at this
    exact this
  have HTx : Hid (∀ v W, TRow W v sample → Calls Tryd.prog 24 #[v] W fun e w' => e = .returned (.string ⟨#[122, 111, 110, 101, 33, 61, 97, 124, 98, 44, 33, 103, 112, 117, 44, 100, 105, 115, 107]⟩) ∧ Below W.heap.size W w') := Lib.hid fun v W h => by
    have := text_sel v sample W h fair_sample
    rw [sample_text] at this
    exact this
  have HM1 : Hid (∀ v a W, TRow W v sample → Row W a [(tDisk, ⟨#[115, 115, 100]⟩), (tZone, one1 99)] → Calls Tryd.prog 18 #[v, a] W fun e w' => e = .returned (.bool true) ∧ Below W.heap.size W w') := Lib.hid fun v a W h1 h2 => by
    have := match_any v sample a _ W h1 fair_sample h2 (by decide)
    rw [match_1] at this
    exact this
  have HM2 : Hid (∀ v a W, TRow W v sample → Row W a [(tDisk, ⟨#[115, 115, 100]⟩), (tZone, one1 97)] → Calls Tryd.prog 18 #[v, a] W fun e w' => e = .returned (.bool false) ∧ Below W.heap.size W w') := Lib.hid fun v a W h1 h2 => by
    have := match_any v sample a _ W h1 fair_sample h2 (by decide)
    rw [match_2] at this
    exact this
  have HM3 : Hid (∀ v a W, TRow W v sample → Row W a [(tDisk, one1 120)] → Calls Tryd.prog 18 #[v, a] W fun e w' => e = .returned (.bool true) ∧ Below W.heap.size W w') := Lib.hid fun v a W h1 h2 => by
    have := match_any v sample a _ W h1 fair_sample h2 (by decide)
    rw [match_3] at this
    exact this
  have HM4 : Hid (∀ W, Calls Tryd.prog 18 #[.slice none 0 0, .slice none 0 0] W fun e w' => e = .returned (.bool true) ∧ Below W.heap.size W w') := Lib.hid fun W => match_any _ [] _ [] W (TRow.nil W) ⟨by simp, fun t ht => by simp at ht⟩ (row_none W) (by simp)
  have HPu : Hid (∀ v W, TRow W v (sample.drop 2) → Calls Tryd.prog 22 #[v] W fun e w' => e = .returned (.string ⟨#[1, 4, 100, 105, 115, 107, 0]⟩) ∧ Below W.heap.size W w') := Lib.hid fun v W h => by
    have := put_sel v _ W h (fair_drop fair_sample 2)
    rw [put_1] at this
    exact this
  have HS1 : Hid (∀ v W, TRow W v sample → Calls Tryd.prog 21 #[v, v] W fun e w' => e = .returned (.bool true) ∧ Below W.heap.size W w') := Lib.hid fun v W h => by
    have := same_any v v sample sample W h h fair_sample
    rw [decide_eq_true rfl] at this
    exact this
  have HS2 : Hid (∀ v u W, TRow W v sample → TRow W u (sample.drop 1) → Calls Tryd.prog 21 #[v, u] W fun e w' => e = .returned (.bool false) ∧ Below W.heap.size W w') := Lib.hid fun v u W h1 h2 => by
    have := same_any v u sample _ W h1 h2 fair_sample
    rw [same_1] at this
    exact this
  clear hE
  go_enter Tryd.func9, Tryd.ntmps9
  go_wp2_with fail
  with_reducible refine (HP1.out _ (HE.out _ (Below.refl _ _))).mono ?_
  rintro e w1 ⟨⟨v, rfl, hv⟩, hb1⟩
  have HV1 := Lib.hid hv
  obtain ⟨va, cap, hve, hcap, hm⟩ := hv.slice
  rw [show sample.length = 3 from rfl] at hve
  subst hve
  obtain ⟨g, o, rfl, _, _⟩ := hv.cells (k := 0) (by decide)
  clear hv
  change Hid (TRow w1 (.slice (some ⟨g, o, none⟩) 3 cap) sample) at HV1
  change 3 ≤ cap at hcap
  go_wp2_with fail
  refine (HP2.out _ (HE.out _ hb1)).mono ?_
  rintro e w2 ⟨rfl, hb2⟩
  have HV2 := Lib.hid (HV1.out.below hb2)
  have hb := grows hb1 hb2
  obtain ⟨g', o', he, hg, hcell⟩ := HV2.out.cells (k := 0) (by decide)
  injection he with he
  injection he with he1 he2 _
  subst he1 he2
  obtain ⟨_, c1, s0, c2, hs0⟩ := hcell 0 _ rfl
  obtain ⟨_, c4, _⟩ := hcell 1 _ rfl
  obtain ⟨_, c7, _⟩ := hcell 2 _ rfl
  obtain ⟨sa, sc, rfl, _, _⟩ := hs0.slice
  change w2.cell? ⟨g, o + 0 * 3 + 1, none⟩ = some (.bool true) at c1
  change w2.cell? ⟨g, o + 0 * 3 + 2, none⟩ = some (.slice sa 2 sc) at c2
  change w2.cell? ⟨g, o + 1 * 3 + 1, none⟩ = some (.bool true) at c4
  change w2.cell? ⟨g, o + 2 * 3 + 1, none⟩ = some (.bool false) at c7
  simp only [Nat.zero_mul, Nat.add_zero, Nat.one_mul, show 2 * 3 = 6 from rfl, Nat.add_assoc, Nat.reduceAdd] at c1 c2 c4 c7
  clear hcell hs0 HP1 HP2 hb1 hb2 HE
  go_wp2_with fail
  with_reducible refine (HTx.out _ _ HV2.out).mono ?_
  rintro e w3 ⟨rfl, hb3⟩
  have HV3 := Lib.hid (HV2.out.below hb3)
  have hb := grows hb hb3
  clear hb3 c1 c2 c4 c7
  go_wp2_with fail
  refine (HM1.out _ _ _ (HV3.out.below (grew w3 _)) (row_new w3 [(tDisk, ⟨#[115, 115, 100]⟩), (tZone, one1 99)] _ (by decide))).mono ?_
  rintro e w4 ⟨rfl, hb4⟩
  have HV4 := Lib.hid (HV3.out.below (grows (grew w3 _) hb4))
  have hb := grows hb (grows (grew w3 _) hb4)
  clear hb4
  go_wp2_with fail
  refine (HM2.out _ _ _ (HV4.out.below (grew w4 _)) (row_new w4 [(tDisk, ⟨#[115, 115, 100]⟩), (tZone, one1 97)] _ (by decide))).mono ?_
  rintro e w5 ⟨rfl, hb5⟩
  have HV5 := Lib.hid (HV4.out.below (grows (grew w4 _) hb5))
  have hb := grows hb (grows (grew w4 _) hb5)
  clear hb5
  go_wp2_with fail
  refine (HM3.out _ _ _ (HV5.out.below (grew w5 _)) (row_new w5 [(tDisk, one1 120)] _ (by decide))).mono ?_
  rintro e w6 ⟨rfl, hb6⟩
  have HV6 := Lib.hid (HV5.out.below (grows (grew w5 _) hb6))
  have hb := grows hb (grows (grew w5 _) hb6)
  clear hb6
  go_wp2_with fail
  refine (HM4.out _).mono ?_
  rintro e w7 ⟨rfl, hb7⟩
  have HV7 := Lib.hid (HV6.out.below hb7)
  have hb := grows hb hb7
  clear hb7
  have hcz : (2 : Int) ≤ (cap : Int) := by omega
  have hc2 : (cap == 2) = false := by rw [beq_eq_false_iff_ne]; omega
  have hc2' : ¬ cap = 2 := by omega
  have hc1' : ¬ cap = 1 := by omega
  go_wp2_with fail
  refine (HPu.out _ _ (trow_drop HV7.out 2 (by decide))).mono ?_
  rintro e w8 ⟨rfl, hb8⟩
  have HV8 := Lib.hid (HV7.out.below hb8)
  have hb := grows hb hb8
  clear hb8
  go_wp2_with fail
  refine (HS1.out _ _ HV8.out).mono ?_
  rintro e w9 ⟨rfl, hb9⟩
  have HV9 := Lib.hid (HV8.out.below hb9)
  have hb := grows hb hb9
  clear hb9
  go_wp2_with fail
  refine (HS2.out _ _ _ HV9.out (trow_drop HV9.out 1 (by decide))).mono ?_
  rintro e w10 ⟨rfl, hb10⟩
  have hb := grows hb hb10
  clear hb10
  go_wp2
  go_ret
  exact ⟨rfl, hb⟩
end Go.Proofs.YtcgknkbigbbfdaaDoor.Sel

/- Selectors and texts that are written out, in memory; what a selector of one term matches. -/
namespace Go.Proofs.YtcgknkbigbbfdaaDoor.Sel
open Go.RowKit Go.Proofs.YtcgknkbigbbfdaaDoor.Texts Go.Proofs.YtcgknkbigbbfdaaDoor.Word Go.Proofs.YtcgknkbigbbfdaaDoor.Forms Go.Proofs.YtcgknkbigbbfdaaDoor.Boxes Go.Proofs.YtcgknkbigbbfdaaDoor.Label

theorem srow_one (w : World) (x : ByteArray) (T : TypeId) : SRow (w.alloc (.cells #[.string x] T)) (.slice (some ⟨w.heap.size, 0, none⟩) 1 1) [x] := by
  refine .inr ⟨by simp, w.heap.size, 0, 1, rfl, lt_of (fresh w _), Nat.le_refl _, by decide, fun j t hj => ?_⟩
  match j with
  | 0 => simp at hj; subst hj; exact cell_at (i := 0) (fresh w _) rfl
  | (n + 1) => simp at hj
theorem trow_one (w : World) (t : Tm) (s : Value) (T : TypeId) (hs : SRow w s t.2.2) : TRow (w.alloc (.cells #[.string t.1, .bool t.2.1, s] T)) (.slice (some ⟨w.heap.size, 0, none⟩) 1 1) [t] := by
  obtain ⟨h1, h2, h3, _⟩ := cells3 (fresh w (.cells #[.string t.1, .bool t.2.1, s] T))
  refine .inr ⟨by simp, w.heap.size, 0, 1, rfl, lt_of (fresh w _), Nat.le_refl _, by decide, fun j x hj => ?_⟩
  match j with
  | 0 => simp at hj; subst hj; exact ⟨h1, h2, s, h3, hs.below (old w _)⟩
  | (n + 1) => simp at hj
theorem match_one (f : ByteArray → Option ByteArray) (t : Tm) : matchS f [t] = holdsT (f t.1) t := by simp [matchS]
theorem holds_one (x v : ByteArray) (k : ByteArray) : holdsT (some x) (k, false, [v]) = (v.toList == x.toList) := by
  unfold holdsT
  simp
theorem holds_nil (t : Tm) : holdsT none t = t.2.1 := by
  unfold holdsT
  cases t.2.1 <;> rfl
theorem find_same (k v : ByteArray) (r : List Pr) : findL ((k, v) :: r) k = some v := by simp [findL]
theorem find_other {o k v : ByteArray} {r : List Pr} (h : (o.toList == k.toList) = false) : findL ((o, v) :: r) k = findL r k := by simp [findL, h]
theorem find_nil (k : ByteArray) : findL [] k = none := rfl
theorem fair_one {t : Tm} (h1 : t.1.size ≤ 4611686018427387904) (h2 : t.2.2.length ≤ 4611686018427387904) (h3 : ∀ x ∈ t.2.2, x.size ≤ 4611686018427387904) : Fair [t] := ⟨by simp, fun u hu => by simp at hu; subst hu; exact ⟨h1, h2, h3⟩⟩
end Go.Proofs.YtcgknkbigbbfdaaDoor.Sel
